import Derived.Test.YtogcpllpkdeehaaGreatDoorTbF
namespace Go.Proofs.YtogcpllpkdeehaaGreatDoor
open Go.RowKit Go.Maps
set_option linter.unusedVariables false
set_option linter.unusedSimpArgs false

/-- The k-th block of entries. -/
def subE (xs : List En) (k : Nat) : List En := (xs.drop (8 * k)).take 8
/-- The bytes of the first k blocks, and of the index that speaks of them. -/
def tab (xs : List En) : Nat → List UInt8 × List UInt8
  | 0 => ([], [])
  | k + 1 => ((tab xs k).1 ++ (frT 66 (encT (subE xs k))).data.toList, (tab xs k).2 ++ (vb ((tab xs k).1.length / 64) ++ vb (subE xs k).length ++ kyB ((subE xs k).getD 0 en0).ky ++ kyB ((subE xs k).getD ((subE xs k).length - 1) en0).ky))
def nbE (n : Nat) : Nat := (n + 7) / 8
def idxT (xs : List En) : ByteArray := frT 73 ⟨(vb (nbE xs.length) ++ (tab xs (nbE xs.length)).2).toArray⟩
def tabX (xs : List En) : ByteArray := if (idxT xs).size = 0 then ⟨#[]⟩ else ⟨((tab xs (nbE xs.length)).1 ++ (idxT xs).data.toList ++ (frT 70 ⟨(vb ((tab xs (nbE xs.length)).1.length / 64)).toArray⟩).data.toList).toArray⟩
def tabT (xs : List En) : ByteArray := if xs.length ≤ 300000 ∧ okTo xs xs.length = true then tabX xs else ⟨#[]⟩

theorem okTo_split (xs : List En) : ∀ n, n ≤ xs.length → (okTo xs n = true ↔ (xs.take n).all entOk = true ∧ ordTo xs (n - 1) = true)
  | 0, _ => by simp [okTo, ordTo]
  | n + 1, h => by
    have ih := okTo_split xs n (by omega)
    rw [takeE_snoc xs n (by omega), List.all_append]
    simp only [okTo, Bool.and_eq_true, List.all_cons, List.all_nil, Bool.and_true]
    rw [ih]
    cases n with
    | zero => simp [ordTo]
    | succ m =>
      have e1 : m + 1 - 1 = m := by omega
      have e2 : m + 1 + 1 - 1 = m + 1 := by omega
      have e3 : decide (m + 1 = 0) = false := by simp
      rw [e1, e2, e3]
      simp only [ordTo, Bool.and_eq_true, Bool.false_or]
      constructor
      · rintro ⟨⟨a, b⟩, c, d⟩
        exact ⟨⟨a, c⟩, b, d⟩
      · rintro ⟨⟨a, c⟩, b, d⟩
        exact ⟨⟨a, b⟩, c, d⟩
theorem okTo_all (xs : List En) : okTo xs xs.length = true ↔ xs.all entOk = true ∧ ordTo xs (xs.length - 1) = true := by
  have h := okTo_split xs xs.length (Nat.le_refl _)
  rwa [List.take_length] at h
theorem subE_len (xs : List En) (k : Nat) : (subE xs k).length = min 8 (xs.length - 8 * k) := by simp [subE]
theorem subE_all {xs : List En} (h : xs.all entOk = true) (k : Nat) : (subE xs k).all entOk = true :=
  List.all_eq_true.2 fun x hx => List.all_eq_true.1 h x (List.mem_of_mem_drop (List.mem_of_mem_take hx))
theorem subE_at (xs : List En) (k i : Nat) (hi : i < 8) (h : 8 * k + i < xs.length) : (subE xs k).getD i en0 = xs.getD (8 * k + i) en0 := by
  simp only [subE, List.getD, List.getElem?_take, List.getElem?_drop]
  rw [if_pos hi]
theorem subE_enc {xs : List En} (h : xs.all entOk = true) (k : Nat) : encT (subE xs k) = ⟨(encB (subE xs k).length (subE xs k)).toArray⟩ :=
  encT_ok _ (by rw [subE_len]; omega) (subE_all h k)
theorem subE_size {xs : List En} (h : xs.all entOk = true) (k : Nat) : (encT (subE xs k)).size ≤ 40208 := by
  rw [subE_enc h k]
  have h1 := encB_len (subE xs k).length (subE xs k) (subE_all h k)
  have h2 := subE_len xs k
  show (encB (subE xs k).length (subE xs k)).toArray.size ≤ _
  rw [List.size_toArray]
  omega
theorem frB_len (k : Nat) (p : List UInt8) : (frB k p).length = 64 * pagesN (8 + p.length) := by
  unfold frB
  rw [fby_len, body_len]
  unfold pagesN
  omega
theorem frT_size {k : Int} {p : ByteArray} (h1 : kindOk k = true) (h2 : p.size ≤ 1048576) : (frT k p).size = 64 * pagesN (8 + p.size) := by
  rw [frT_in h1 h2]
  show (frB k.toNat p.data.toList).toArray.size = _
  rw [List.size_toArray, frB_len, dataL]
theorem frT_data {k : Int} {p : ByteArray} (h1 : kindOk k = true) (h2 : p.size ≤ 1048576) : (frT k p).data.toList.length = 64 * pagesN (8 + p.size) := by
  rw [dataL, frT_size h1 h2]
theorem tab_len {xs : List En} (h : xs.all entOk = true) : ∀ k, (tab xs k).1.length ≤ 40960 * k
  | 0 => by simp [tab]
  | k + 1 => by
    have ih := tab_len h k
    have hs := subE_size h k
    simp only [tab, List.length_append]
    rw [frT_data (by decide) (by omega)]
    unfold pagesN
    omega
/-- An entry whose key is not too long. -/
theorem kyB_lenB {s : ByteArray} (h : s.size ≤ 1000) : (kyB s).length ≤ 1008 := by
  have := vb_len s.size
  simp only [kyB, List.length_append, dataL]
  omega
theorem subE_key {xs : List En} (h : xs.all entOk = true) (k i : Nat) : ((subE xs k).getD i en0).ky.size ≤ 1000 := by
  by_cases hi : i < (subE xs k).length
  · have e : (subE xs k).getD i en0 = (subE xs k)[i] := by simp [List.getD, hi]
    rw [e]
    exact ((entOk_iff _).1 (List.all_eq_true.1 (subE_all h k) _ (List.getElem_mem hi))).1.2.1
  · have e : (subE xs k).getD i en0 = en0 := by simp [List.getD, List.getElem?_eq_none (Nat.le_of_not_lt hi)]
    rw [e]
    decide
theorem tab_idx {xs : List En} (h : xs.all entOk = true) : ∀ k, (tab xs k).2.length ≤ 2032 * k
  | 0 => by simp [tab]
  | k + 1 => by
    have ih := tab_idx h k
    have a := vb_len ((tab xs k).1.length / 64)
    have b := vb_len (subE xs k).length
    have c := kyB_lenB (subE_key h k 0)
    have d := kyB_lenB (subE_key h k ((subE xs k).length - 1))
    simp only [tab, List.length_append]
    omega
end Go.Proofs.YtogcpllpkdeehaaGreatDoor
namespace Go.Proofs.YtogcpllpkdeehaaGreatDoor
open Go.RowKit Go.Maps
set_option linter.unusedVariables false
set_option linter.unusedSimpArgs false

set_option maxRecDepth 100000 in
set_option maxHeartbeats 1000000 in
/-- What the index says of a block. -/
theorem putBlockRef_any (B b : Nat) (l : List UInt8) (pg : Nat) (a : Option Addr) (cap : Nat) (xs : List En) (w : World) (h : Bld B b l w) (hx : LieE w a xs) (hxB : ∀ g o, a = some ⟨g, o, none⟩ → g < B) (h0 : 0 < xs.length) (hn : xs.length ≤ 1000) (hk : ∀ e ∈ xs, e.ky.size ≤ 1000) (hpg : pg ≤ 72057594037927935) (hlen : l.length ≤ 70368744100000) (hBw : B ≤ w.heap.size) :
    Calls Tryz.prog 21 #[.pointer (some ⟨b, 0, none⟩), .int .i64 pg, .slice a xs.length cap] w fun e w' => e = .returned (.tuple #[]) ∧ Bld B b (l ++ (vb pg ++ vb xs.length ++ kyB (xs.getD 0 en0).ky ++ kyB (xs.getD (xs.length - 1) en0).ky)) w' ∧ Below B w w' ∧
      (∀ k o, w.heap[k]? = some o → k ≠ b → (∀ c fz, o ≠ .cells c 5 fz) → w'.heap[k]? = some o) := by
  have HV1 : Hid ((vtext (pg : Int)).data.toList = vb pg) := by show _ = _; rw [vtext_in _ (by omega) (by omega)]; simp
  have HV2 : Hid ((vtext (xs.length : Int)).data.toList = vb xs.length) := by show _ = _; rw [vtext_in _ (by omega) (by omega)]; simp
  have hv1 := vtext_size (pg : Int)
  have hv2 := vtext_size (xs.length : Int)
  have hw1 := vb_len pg
  have hw2 := vb_len xs.length
  obtain ⟨g, off, rfl, hgl, c0, -, -, -⟩ := hx.at (i := 0) h0
  obtain ⟨g', off', e, -, d0, -, -, -⟩ := hx.at (i := xs.length - 1) (by omega)
  cases e
  have hgB := hxB g off rfl
  have hz0 : (xs.getD 0 en0).ky.size ≤ 1000 := by
    have : xs.getD 0 en0 = xs[0] := by simp [List.getD, h0]
    rw [this]
    exact hk _ (List.getElem_mem h0)
  have hz1 : (xs.getD (xs.length - 1) en0).ky.size ≤ 1000 := by
    have hlt : xs.length - 1 < xs.length := by omega
    have : xs.getD (xs.length - 1) en0 = xs[xs.length - 1] := by simp [List.getD, hlt]
    rw [this]
    exact hk _ (List.getElem_mem hlt)
  rw [Nat.zero_mul, Nat.add_zero] at c0
  generalize (xs.getD 0 en0).ky = y0 at *
  generalize (xs.getD (xs.length - 1) en0).ky = y1 at *
  have hsub : ((xs.length : Int) - 1).toNat = xs.length - 1 := by omega
  have hws : IntKind.i64.wrap ((xs.length : Int) - 1) = (xs.length : Int) - 1 := by rw [IntKind.wrap_i64]; omega
  have hp0 : (0 : Int) ≤ (xs.length : Int) - 1 := by omega
  have hp1 : (xs.length : Int) - 1 < xs.length := by omega
  have hp2 : (0 : Int) < xs.length := by omega
  have hy0 := vb_len y0.size
  have hdl := dataL y0
  have hbb : b < w.heap.size := h.lt
  have lt : ∀ {k : Nat} {o : Obj} {w : World}, w.heap[k]? = some o → k < w.heap.size := fun {k o w} h => heap_ltB h
  go_enter Tryz.func21, Tryz.ntmps21
  go_wp2_with fail
  refine (implPut_any _ _).mono ?_
  rintro e w1 ⟨rfl, hb1⟩
  have h1 := h.below hb1
  have hs1 := hb1.size
  go_wp2_with fail
  refine (writeString_any B b l _ w1 h1 (by omega) (by omega)).mono ?_
  rintro e w2 ⟨rfl, h2, hb2, hk2⟩
  rw [HV1.out] at h2
  have hs2 := hb2.size
  go_wp2_with fail
  refine (implPut_any _ _).mono ?_
  rintro e w3 ⟨rfl, hb3⟩
  have h3 := h2.below hb3
  have hs3 := hb3.size
  go_wp2_with fail
  refine (writeString_any B b _ _ w3 h3 (by rw [List.length_append]; omega) (by omega)).mono ?_
  rintro e w4 ⟨rfl, h4, hb4, hk4⟩
  rw [HV2.out] at h4
  have hs4 := hb4.size
  have hB4 : Below B w w4 := (((hb1.mono hBw).trans hb2).trans (hb3.mono (by omega))).trans hb4
  have f0 := (hB4.cell (p := ⟨g, _, none⟩) hgB).trans c0
  go_wp2_with fail
  refine (putSized_any B b _ y0 w4 h4 (by omega) (by simp only [List.length_append]; omega) (by omega)).mono ?_
  rintro e w5 ⟨rfl, h5, hb5, hk5⟩
  have hB5 := hB4.trans hb5
  have hs5 := hb5.size
  have f1 := (hB5.cell (p := ⟨g, _, none⟩) hgB).trans d0
  go_wp2_with fail
  refine (putSized_any B b _ y1 w5 h5 (by omega) (by simp only [List.length_append]; omega) (by omega)).mono ?_
  rintro e w6 ⟨rfl, h6, hb6, hk6⟩
  go_wp2_with fail
  go_end0
  refine ⟨rfl, by simpa [kyB] using h6, hB5.trans hb6, fun k o hk hkb ho => ?_⟩
  have e1 := (hb1.block k (lt hk)).trans hk
  have e2 := hk2 k o e1 (by simpa using hkb) ho
  have e3 := (hb3.block k (lt e2)).trans e2
  have e4 := hk4 k o e3 (by simpa using hkb) ho
  exact hk6 k o (hk5 k o e4 hkb ho) hkb ho
end Go.Proofs.YtogcpllpkdeehaaGreatDoor
namespace Go.Proofs.YtogcpllpkdeehaaGreatDoor
open Go.RowKit Go.Maps
set_option linter.unusedVariables false
set_option linter.unusedSimpArgs false

theorem subE_fits {xs : List En} (h : FitsE xs) (k : Nat) : FitsE (subE xs k) :=
  fun e he => h e (List.mem_of_mem_drop (List.mem_of_mem_take he))
theorem LieE.sub {w : World} {b off : Nat} {xs : List En} (h : LieE w (some ⟨b, off, none⟩) xs) {k f : Nat} (hf : f = 8 * k) (hlt : f < xs.length) : LieE w (some ⟨b, off + f * 4, none⟩) (subE xs k) := by
  rcases h with rfl | ⟨b', off', e, hl, hc⟩
  · simp at hlt
  · cases e
    refine .inr ⟨b, off + f * 4, rfl, hl, fun i hi => ?_⟩
    have hi' : i < 8 ∧ 8 * k + i < xs.length := by rw [subE_len] at hi; omega
    rw [subE_at xs k i hi'.1 hi'.2]
    have := hc (8 * k + i) hi'.2
    rw [show off + f * 4 + i * 4 = off + (8 * k + i) * 4 by omega]
    exact this
theorem owns_sliceB {w : World} {B n size : Nat} {e : TypeId} {v : Value} {xs : List Value} (h : w.ownsRow B e size v n xs) : ∃ a cap, v = .slice a n cap := by
  rcases h.2 with ⟨rfl, h0⟩ | ⟨g, cap, cur, rfl, _⟩
  · exact ⟨none, 0, by rw [h0]⟩
  · exact ⟨_, _, rfl⟩
end Go.Proofs.YtogcpllpkdeehaaGreatDoor
namespace Go.Proofs.YtogcpllpkdeehaaGreatDoor
open Go.RowKit Go.Maps
set_option linter.unusedVariables false
set_option linter.unusedSimpArgs false

/-- string(b) of a row of bytes that the call owns, be it empty. -/
theorem conv_rowE {w : World} {B : Nat} {v : Value} {l : List UInt8} (h : w.ownsRow B 5 1 v l.length (bc l)) :
    (convert 22 9 v).run Tryz.prog w = .ok (.string ⟨l.toArray⟩) w := by
  obtain ⟨h1, h2⟩ := h
  rcases h2 with ⟨rfl, h0⟩ | ⟨g, cap, cur, rfl, hg, hb, hl, hm, hsz, htk⟩
  · obtain rfl := List.length_eq_zero_iff.1 h0
    rw [run_convert_bytes_string w 22 9 5 _ _ _ Tryz.underlying22 Tryz.underlying5 Tryz.underlying9]
    unfold Conv.bytesToString
    simp [go_sem, Sem.run_pure]
    rfl
  · refine run_convert_bytes_back w 22 9 5 _ cap l Tryz.underlying22 Tryz.underlying5 Tryz.underlying9 (fun j hj => ?_)
    rw [Go.WideShapes.add_plain]
    have e1 : (cur.toList.take (l.length * 1))[j]? = (bc l)[j]? := by rw [htk]
    rw [List.getElem?_take_of_lt (by omega)] at e1
    simp only [World.cell?, hb]
    have e2 : cur[0 + j]? = cur.toList[j]? := by simp
    rw [e2, e1]
    simp [hj]
theorem text_app (a b : List UInt8) : (⟨a.toArray⟩ : ByteArray) ++ ⟨b.toArray⟩ = ⟨(a ++ b).toArray⟩ := by
  apply ByteArray.ext
  rw [ByteArray.data_append]
  simp
theorem idx_eq (xs : List En) (h : nbE xs.length ≤ 37500) : frT 73 (vtext (nbE xs.length : Nat) ++ ⟨(tab xs (nbE xs.length)).2.toArray⟩) = idxT xs := by
  rw [vtext_in _ (by omega) (by omega), Int.toNat_natCast, text_app]
  rfl
theorem frT_le (k : Int) (p : ByteArray) : (frT k p).size ≤ 1100000 := by
  by_cases h : kindOk k = true ∧ p.size ≤ 1048576
  · rw [frT_size h.1 h.2]
    unfold pagesN
    omega
  · rw [frT_out h]
    show (0 : Nat) ≤ _
    omega
theorem tabX_none {xs : List En} (h : (idxT xs).size = 0) : tabX xs = ⟨#[]⟩ := by unfold tabX; rw [if_pos h]
theorem tabX_some {xs : List En} (h : (idxT xs).size ≠ 0) (hs : (tab xs (nbE xs.length)).1.length / 64 ≤ 72057594037927935) : tabX xs = ⟨((tab xs (nbE xs.length)).1 ++ (idxT xs).data.toList ++ (frT 70 (vtext ((tab xs (nbE xs.length)).1.length / 64 : Nat))).data.toList).toArray⟩ := by
  unfold tabX
  rw [if_neg h]
  congr 4
  rw [vtext_in _ (by omega) (by omega), Int.toNat_natCast]
end Go.Proofs.YtogcpllpkdeehaaGreatDoor
