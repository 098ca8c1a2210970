import Derived.Test.YtgmfjninimebmaaGreatDoorMgTbA
namespace Go.Proofs.YtgmfjninimebmaaGreatDoor
open Go.RowKit Go.Maps
set_option linter.unusedVariables false
set_option linter.unusedSimpArgs false

set_option maxRecDepth 100000 in
set_option maxHeartbeats 1000000 in
/-- What the index says of a block. -/
theorem putBlockRef_any (B b : Nat) (l : List UInt8) (pg : Nat) (a : Option Addr) (cap : Nat) (xs : List En) (w : World) (h : Bld B b l w) (hx : LieE w a xs) (hxB : ∀ g o, a = some ⟨g, o, none⟩ → g < B) (h0 : 0 < xs.length) (hn : xs.length ≤ 1000) (hk : ∀ e ∈ xs, e.ky.size ≤ 1000) (hpg : pg ≤ 72057594037927935) (hlen : l.length ≤ 70368744100000) (hBw : B ≤ w.heap.size) :
    Calls Tryz.prog 124 #[.pointer (some ⟨b, 0, none⟩), .int .i64 pg, .slice a xs.length cap] w fun e w' => e = .returned (.tuple #[]) ∧ Bld B b (l ++ (vb pg ++ vb xs.length ++ kyB (xs.getD 0 en0).ky ++ kyB (xs.getD (xs.length - 1) en0).ky)) w' ∧ Below B w w' ∧
      (∀ k o, w.heap[k]? = some o → k ≠ b → (∀ c fz, o ≠ .cells c 5 fz) → w'.heap[k]? = some o) := by
  have HV1 : Hid ((vtext (pg : Int)).data.toList = vb pg) := by show _ = _; rw [vtext_in _ (by omega) (by omega)]; simp
  have HV2 : Hid ((vtext (xs.length : Int)).data.toList = vb xs.length) := by show _ = _; rw [vtext_in _ (by omega) (by omega)]; simp
  have hv1 := vtext_size (pg : Int)
  have hv2 := vtext_size (xs.length : Int)
  have hw1 := vb_len pg
  have hw2 := vb_len xs.length
  obtain ⟨g, off, rfl, hgl, c0, -, -, -⟩ := hx.at (i := 0) h0
  obtain ⟨g', off', e, -, d0, -, -, -⟩ := hx.at (i := xs.length - 1) (by omega)
  cases e
  have hgB := hxB g off rfl
  have hz0 : (xs.getD 0 en0).ky.size ≤ 1000 := by
    have : xs.getD 0 en0 = xs[0] := by simp [List.getD, h0]
    rw [this]
    exact hk _ (List.getElem_mem h0)
  have hz1 : (xs.getD (xs.length - 1) en0).ky.size ≤ 1000 := by
    have hlt : xs.length - 1 < xs.length := by omega
    have : xs.getD (xs.length - 1) en0 = xs[xs.length - 1] := by simp [List.getD, hlt]
    rw [this]
    exact hk _ (List.getElem_mem hlt)
  rw [Nat.zero_mul, Nat.add_zero] at c0
  generalize (xs.getD 0 en0).ky = y0 at *
  generalize (xs.getD (xs.length - 1) en0).ky = y1 at *
  have hsub : ((xs.length : Int) - 1).toNat = xs.length - 1 := by omega
  have hws : IntKind.i64.wrap ((xs.length : Int) - 1) = (xs.length : Int) - 1 := by rw [IntKind.wrap_i64]; omega
  have hp0 : (0 : Int) ≤ (xs.length : Int) - 1 := by omega
  have hp1 : (xs.length : Int) - 1 < xs.length := by omega
  have hp2 : (0 : Int) < xs.length := by omega
  have hy0 := vb_len y0.size
  have hdl := dataL y0
  have hbb : b < w.heap.size := h.lt
  have lt : ∀ {k : Nat} {o : Obj} {w : World}, w.heap[k]? = some o → k < w.heap.size := fun {k o w} h => heap_ltB h
  go_enter Tryz.func124, Tryz.ntmps124
  go_wp2_with fail
  refine (implPut_any _ _).mono ?_
  rintro e w1 ⟨rfl, hb1⟩
  have h1 := h.below hb1
  have hs1 := hb1.size
  go_wp2_with fail
  refine (writeString_any B b l _ w1 h1 (by omega) (by omega)).mono ?_
  rintro e w2 ⟨rfl, h2, hb2, hk2⟩
  rw [HV1.out] at h2
  have hs2 := hb2.size
  go_wp2_with fail
  refine (implPut_any _ _).mono ?_
  rintro e w3 ⟨rfl, hb3⟩
  have h3 := h2.below hb3
  have hs3 := hb3.size
  go_wp2_with fail
  refine (writeString_any B b _ _ w3 h3 (by rw [List.length_append]; omega) (by omega)).mono ?_
  rintro e w4 ⟨rfl, h4, hb4, hk4⟩
  rw [HV2.out] at h4
  have hs4 := hb4.size
  have hB4 : Below B w w4 := (((hb1.mono hBw).trans hb2).trans (hb3.mono (by omega))).trans hb4
  have f0 := (hB4.cell (p := ⟨g, _, none⟩) hgB).trans c0
  go_wp2_with fail
  refine (putSized_any B b _ y0 w4 h4 (by omega) (by simp only [List.length_append]; omega) (by omega)).mono ?_
  rintro e w5 ⟨rfl, h5, hb5, hk5⟩
  have hB5 := hB4.trans hb5
  have hs5 := hb5.size
  have f1 := (hB5.cell (p := ⟨g, _, none⟩) hgB).trans d0
  go_wp2_with fail
  refine (putSized_any B b _ y1 w5 h5 (by omega) (by simp only [List.length_append]; omega) (by omega)).mono ?_
  rintro e w6 ⟨rfl, h6, hb6, hk6⟩
  go_wp2_with fail
  go_end0
  refine ⟨rfl, by simpa [kyB] using h6, hB5.trans hb6, fun k o hk hkb ho => ?_⟩
  have e1 := (hb1.block k (lt hk)).trans hk
  have e2 := hk2 k o e1 (by simpa using hkb) ho
  have e3 := (hb3.block k (lt e2)).trans e2
  have e4 := hk4 k o e3 (by simpa using hkb) ho
  exact hk6 k o (hk5 k o e4 hkb ho) hkb ho
end Go.Proofs.YtgmfjninimebmaaGreatDoor
namespace Go.Proofs.YtgmfjninimebmaaGreatDoor
open Go.RowKit Go.Maps
set_option linter.unusedVariables false
set_option linter.unusedSimpArgs false

theorem subE_fits {xs : List En} (h : FitsE xs) (k : Nat) : FitsE (subE xs k) :=
  fun e he => h e (List.mem_of_mem_drop (List.mem_of_mem_take he))
theorem LieE.sub {w : World} {b off : Nat} {xs : List En} (h : LieE w (some ⟨b, off, none⟩) xs) {k f : Nat} (hf : f = 8 * k) (hlt : f < xs.length) : LieE w (some ⟨b, off + f * 4, none⟩) (subE xs k) := by
  rcases h with rfl | ⟨b', off', e, hl, hc⟩
  · simp at hlt
  · cases e
    refine .inr ⟨b, off + f * 4, rfl, hl, fun i hi => ?_⟩
    have hi' : i < 8 ∧ 8 * k + i < xs.length := by rw [subE_len] at hi; omega
    rw [subE_at xs k i hi'.1 hi'.2]
    have := hc (8 * k + i) hi'.2
    rw [show off + f * 4 + i * 4 = off + (8 * k + i) * 4 by omega]
    exact this
theorem owns_sliceB {w : World} {B n size : Nat} {e : TypeId} {v : Value} {xs : List Value} (h : w.ownsRow B e size v n xs) : ∃ a cap, v = .slice a n cap := by
  rcases h.2 with ⟨rfl, h0⟩ | ⟨g, cap, cur, rfl, _⟩
  · exact ⟨none, 0, by rw [h0]⟩
  · exact ⟨_, _, rfl⟩
end Go.Proofs.YtgmfjninimebmaaGreatDoor
namespace Go.Proofs.YtgmfjninimebmaaGreatDoor
open Go.RowKit Go.Maps
set_option linter.unusedVariables false
set_option linter.unusedSimpArgs false

/-- string(b) of a row of bytes that the call owns, be it empty. -/
theorem conv_rowE {w : World} {B : Nat} {v : Value} {l : List UInt8} (h : w.ownsRow B 5 1 v l.length (bc l)) :
    (convert 111 9 v).run Tryz.prog w = .ok (.string ⟨l.toArray⟩) w := by
  obtain ⟨h1, h2⟩ := h
  rcases h2 with ⟨rfl, h0⟩ | ⟨g, cap, cur, rfl, hg, hb, hl, hm, hsz, htk⟩
  · obtain rfl := List.length_eq_zero_iff.1 h0
    rw [run_convert_bytes_string w 111 9 5 _ _ _ Tryz.underlying111 Tryz.underlying5 Tryz.underlying9]
    unfold Conv.bytesToString
    simp [go_sem, Sem.run_pure]
    rfl
  · refine run_convert_bytes_back w 111 9 5 _ cap l Tryz.underlying111 Tryz.underlying5 Tryz.underlying9 (fun j hj => ?_)
    rw [Go.WideShapes.add_plain]
    have e1 : (cur.toList.take (l.length * 1))[j]? = (bc l)[j]? := by rw [htk]
    rw [List.getElem?_take_of_lt (by omega)] at e1
    simp only [World.cell?, hb]
    have e2 : cur[0 + j]? = cur.toList[j]? := by simp
    rw [e2, e1]
    simp [hj]
theorem text_app (a b : List UInt8) : (⟨a.toArray⟩ : ByteArray) ++ ⟨b.toArray⟩ = ⟨(a ++ b).toArray⟩ := by
  apply ByteArray.ext
  rw [ByteArray.data_append]
  simp
theorem idx_eq (xs : List En) (h : nbE xs.length ≤ 37500) : frT 73 (vtext (nbE xs.length : Nat) ++ ⟨(tab xs (nbE xs.length)).2.toArray⟩) = idxT xs := by
  rw [vtext_in _ (by omega) (by omega), Int.toNat_natCast, text_app]
  rfl
theorem frT_le (k : Int) (p : ByteArray) : (frT k p).size ≤ 1100000 := by
  by_cases h : kindOk k = true ∧ p.size ≤ 1048576
  · rw [frT_size h.1 h.2]
    unfold pagesN
    omega
  · rw [frT_out h]
    show (0 : Nat) ≤ _
    omega
theorem tabX_none {xs : List En} (h : (idxT xs).size = 0) : tabX xs = ⟨#[]⟩ := by unfold tabX; rw [if_pos h]
theorem tabX_some {xs : List En} (h : (idxT xs).size ≠ 0) (hs : (tab xs (nbE xs.length)).1.length / 64 ≤ 72057594037927935) : tabX xs = ⟨((tab xs (nbE xs.length)).1 ++ (idxT xs).data.toList ++ (frT 70 (vtext ((tab xs (nbE xs.length)).1.length / 64 : Nat))).data.toList).toArray⟩ := by
  unfold tabX
  rw [if_neg h]
  congr 4
  rw [vtext_in _ (by omega) (by omega), Int.toNat_natCast]
end Go.Proofs.YtgmfjninimebmaaGreatDoor
namespace Go.Proofs.YtgmfjninimebmaaGreatDoor
open Go.RowKit
set_option linter.unusedVariables false
set_option linter.unusedSimpArgs false

/-- Byte i of the body of the frame that begins at byte F. -/
def cb (s : List UInt8) (F i : Nat) : UInt8 := s.getD (F + 1 + i / 63 * 64 + i % 63) 0
def le4 (a b c d : UInt8) : Nat := a.toNat + b.toNat * 256 + c.toNat * 65536 + d.toNat * 16777216
/-- The number at byte j of the body. -/
def word (s : List UInt8) (F j : Nat) : Nat := le4 (cb s F j) (cb s F (j + 1)) (cb s F (j + 2)) (cb s F (j + 3))
/-- The payload. -/
def pay (s : List UInt8) (F n : Nat) : List UInt8 := (List.range n).map fun i => cb s F (8 + i)
theorem pay_len (s : List UInt8) (F n : Nat) : (pay s F n).length = n := by simp [pay]
theorem le4_lt (a b c d : UInt8) : le4 a b c d < 4294967296 := by
  have := a.toNat_lt; have := b.toNat_lt; have := c.toNat_lt; have := d.toNat_lt
  unfold le4; omega
theorem ofNat_of {n : Nat} {a : UInt8} (h : n = a.toNat) : UInt8.ofNat n = a := by rw [h]; simp
theorem four_le4 (a b c d : UInt8) : four (le4 a b c d) = [a, b, c, d] := by
  have := a.toNat_lt; have := b.toNat_lt; have := c.toNat_lt; have := d.toNat_lt
  unfold four le4
  rw [ofNat_of (a := a) (by omega), ofNat_of (a := b) (by omega), ofNat_of (a := c) (by omega), ofNat_of (a := d) (by omega)]
theorem four_eq {n : Nat} (hn : n < 4294967296) (a b c d : UInt8) (h : four n = [a, b, c, d]) : n = le4 a b c d := by
  simp only [four, List.cons.injEq, and_true] at h
  obtain ⟨h1, h2, h3, h4⟩ := h
  have e1 := congrArg UInt8.toNat h1
  have e2 := congrArg UInt8.toNat h2
  have e3 := congrArg UInt8.toNat h3
  have e4 := congrArg UInt8.toNat h4
  simp only [UInt8.toNat_ofNat'] at e1 e2 e3 e4
  unfold le4
  omega

/-- The pages of a body that is given byte by byte. -/
def gby (k : Nat) (f : Nat → UInt8) : Nat → List UInt8
  | 0 => []
  | i + 1 => gby k f i ++ hdr k i ++ [f i]
theorem fby_gby (k : Nat) (b : List UInt8) (i : Nat) : fby k b i = gby k (fun i => b.getD i 0) i := by
  induction i with
  | zero => rfl
  | succ i ih => simp only [fby, gby, ih]
theorem gby_congr {k : Nat} {f g : Nat → UInt8} {N : Nat} (h : ∀ i, i < N → f i = g i) : gby k f N = gby k g N := by
  induction N with
  | zero => rfl
  | succ N ih => simp only [gby]; rw [ih (fun i hi => h i (by omega)), h N (by omega)]
theorem gby_len (k : Nat) (f : Nat → UInt8) (i : Nat) : (gby k f i).length = i + pagesN i := by
  induction i with
  | zero => simp [gby, pagesN]
  | succ i ih =>
    simp only [gby, List.length_append, ih, List.length_singleton]
    unfold hdr pagesN
    split
    · subst_vars; simp
    · split
      · simp; omega
      · simp; omega
theorem gby_inj {k : Nat} {f g : Nat → UInt8} {N : Nat} (h : gby k f N = gby k g N) : ∀ i, i < N → f i = g i := by
  induction N with
  | zero => intro i hi; omega
  | succ N ih =>
    simp only [gby] at h
    have h1 := List.append_inj h (by simp [gby_len])
    have h2 := List.append_inj h1.1 (by simp [gby_len])
    intro i hi
    by_cases hiN : i = N
    · subst hiN; simpa using h1.2
    · exact ih h2.1 i (by omega)

theorem take_snocR (l : List UInt8) (n : Nat) (h : n < l.length) : l.take (n + 1) = l.take n ++ [l.getD n 0] := by
  rw [List.take_succ_eq_append_getElem h]
  simp [List.getD, h]
theorem getD_drop (s : List UInt8) (F n : Nat) : (s.drop F).getD n 0 = s.getD (F + n) 0 := by simp [List.getD]

/-- Pages with the right first bytes. -/
theorem seg_gby {s : List UInt8} {F P k : Nat} (h0 : s.getD F 0 = UInt8.ofNat k) (hm : ∀ i, 1 ≤ i → i < P → s.getD (F + i * 64) 0 = 99) (hl : F + 64 * P ≤ s.length) :
    ∀ i, i ≤ 63 * P → (s.drop F).take (i + pagesN i) = gby k (cb s F) i := by
  intro i
  induction i with
  | zero => intro _; simp [gby, pagesN]
  | succ i ih =>
    intro hi
    have hld : (s.drop F).length = s.length - F := List.length_drop
    by_cases hz : i % 63 = 0
    · have hp : pagesN i = i / 63 := by unfold pagesN; omega
      have hp1 : pagesN (i + 1) = i / 63 + 1 := by unfold pagesN; omega
      have e1 : i + 1 + pagesN (i + 1) = (i + pagesN i) + 1 + 1 := by omega
      rw [e1, take_snocR _ _ (by omega), take_snocR _ _ (by omega), ih (by omega)]
      simp only [gby]
      have a1 : [(s.drop F).getD (i + pagesN i) 0] = hdr k i := by
        rw [getD_drop]
        unfold hdr
        by_cases hi0 : i = 0
        · subst hi0; rw [if_pos rfl]; simp only [pagesN, Nat.zero_add]; rw [show F + 62 / 63 = F by omega, h0]
        · rw [if_neg hi0, if_pos hz, show F + (i + pagesN i) = F + i / 63 * 64 by omega, hm (i / 63) (by omega) (by omega)]
      have a2 : (s.drop F).getD (i + pagesN i + 1) 0 = cb s F i := by
        rw [getD_drop]
        unfold cb
        congr 1
        omega
      rw [a1, a2]
    · have hp : pagesN i = i / 63 + 1 := by unfold pagesN; omega
      have hp1 : pagesN (i + 1) = i / 63 + 1 := by unfold pagesN; omega
      have e1 : i + 1 + pagesN (i + 1) = (i + pagesN i) + 1 := by omega
      rw [e1, take_snocR _ _ (by omega), ih (by omega)]
      simp only [gby]
      have a1 : hdr k i = [] := by unfold hdr; rw [if_neg (by omega), if_neg hz]
      have a2 : (s.drop F).getD (i + pagesN i) 0 = cb s F i := by
        rw [getD_drop]
        unfold cb
        congr 1
        omega
      rw [a1, a2, List.append_nil]

theorem body_get (k : Nat) (p : List UInt8) (i : Nat) : (body k p).getD i 0 = if i < 4 then (four p.length).getD i 0 else if i < 8 then (four (crc (UInt8.ofNat k :: p))).getD (i - 4) 0 else p.getD (i - 8) 0 := by
  have l1 : ∀ n, (four n).length = 4 := fun n => rfl
  unfold body
  simp only [List.getD]
  by_cases h1 : i < 4
  · rw [if_pos h1, List.append_assoc, List.getElem?_append_left (by rw [l1]; exact h1)]
  · rw [if_neg h1, List.append_assoc, List.getElem?_append_right (by rw [l1]; omega), l1]
    by_cases h2 : i < 8
    · rw [if_pos h2, List.getElem?_append_left (by rw [l1]; omega)]
    · rw [if_neg h2, List.getElem?_append_right (by rw [l1]; omega), l1, show i - 4 - 4 = i - 8 by omega]

/-- What stands there is the frame of its payload. -/
theorem frame_iff {s : List UInt8} {F n k : Nat} (h0 : s.getD F 0 = UInt8.ofNat k) (hn : n = word s F 0) (hm : ∀ i, 1 ≤ i → i < pagesN (8 + n) → s.getD (F + i * 64) 0 = 99) (hl : F + 64 * pagesN (8 + n) ≤ s.length) (hc : crc (UInt8.ofNat k :: pay s F n) < 4294967296) :
    (frB k (pay s F n) = (s.drop F).take (64 * pagesN (8 + n))) ↔ (word s F 4 = crc (UInt8.ofNat k :: pay s F n) ∧ ∀ i, 8 + n ≤ i → i < 63 * pagesN (8 + n) → cb s F i = 0) := by
  have hseg := seg_gby h0 hm hl (63 * pagesN (8 + n)) (Nat.le_refl _)
  have e1 : 63 * pagesN (8 + n) + pagesN (63 * pagesN (8 + n)) = 64 * pagesN (8 + n) := by unfold pagesN; omega
  have hP : 8 + n ≤ 63 * pagesN (8 + n) := pages_ge _
  rw [e1] at hseg
  have hfr : frB k (pay s F n) = gby k (fun i => (body k (pay s F n)).getD i 0) (63 * pagesN (8 + n)) := by
    unfold frB
    rw [body_len, pay_len, fby_gby]
  rw [hfr, hseg]
  have hbody : ∀ i, (body k (pay s F n)).getD i 0 = if i < 4 then (four n).getD i 0 else if i < 8 then (four (crc (UInt8.ofNat k :: pay s F n))).getD (i - 4) 0 else if i < 8 + n then cb s F i else 0 := fun i => by
    rw [body_get, pay_len]
    by_cases h1 : i < 4
    · rw [if_pos h1, if_pos h1]
    · rw [if_neg h1, if_neg h1]
      by_cases h2 : i < 8
      · rw [if_pos h2, if_pos h2]
      · rw [if_neg h2, if_neg h2]
        by_cases h3 : i < 8 + n
        · rw [if_pos h3]
          simp only [pay, List.getD, List.getElem?_map]
          rw [List.getElem?_range (by omega)]
          simp only [Option.map_some, Option.getD_some]
          rw [show 8 + (i - 8) = i by omega]
        · rw [if_neg h3]
          simp only [pay, List.getD, List.getElem?_map]
          rw [List.getElem?_eq_none (by simp; omega)]
          rfl
  have hfn : four n = [cb s F 0, cb s F 1, cb s F 2, cb s F 3] := by rw [hn]; exact four_le4 _ _ _ _
  constructor
  · intro h
    have hi := gby_inj h
    refine ⟨?_, fun i h1 h2 => ?_⟩
    · refine (four_eq hc _ _ _ _ ?_).symm
      have g4 := hi 4 (by omega)
      have g5 := hi 5 (by omega)
      have g6 := hi 6 (by omega)
      have g7 := hi 7 (by omega)
      rw [hbody] at g4 g5 g6 g7
      simp only [if_neg (show ¬ 4 < 4 by omega), if_neg (show ¬ 5 < 4 by omega), if_neg (show ¬ 6 < 4 by omega), if_neg (show ¬ 7 < 4 by omega), if_pos (show 4 < 8 by omega), if_pos (show 5 < 8 by omega), if_pos (show 6 < 8 by omega), if_pos (show 7 < 8 by omega)] at g4 g5 g6 g7
      rw [← g4, ← g5, ← g6, ← g7]
      rfl
    · have := hi i h2
      rw [hbody, if_neg (by omega), if_neg (by omega), if_neg (by omega)] at this
      exact this.symm
  · rintro ⟨hw, hz⟩
    refine gby_congr fun i hi => ?_
    rw [hbody]
    by_cases h1 : i < 4
    · rw [if_pos h1, hfn]
      match i, h1 with
      | 0, _ => rfl
      | 1, _ => rfl
      | 2, _ => rfl
      | 3, _ => rfl
    · rw [if_neg h1]
      by_cases h2 : i < 8
      · rw [if_pos h2, ← hw]
        have hf4 : four (word s F 4) = [cb s F 4, cb s F 5, cb s F 6, cb s F 7] := four_le4 _ _ _ _
        rw [hf4]
        match i, h1, h2 with
        | 4, _, _ => rfl
        | 5, _, _ => rfl
        | 6, _, _ => rfl
        | 7, _, _ => rfl
      · rw [if_neg h2]
        by_cases h3 : i < 8 + n
        · rw [if_pos h3]
        · rw [if_neg h3]; exact (hz i (by omega) hi).symm
end Go.Proofs.YtgmfjninimebmaaGreatDoor
namespace Go.Proofs.YtgmfjninimebmaaGreatDoor
open Go.RowKit Go.Maps
set_option linter.unusedVariables false
set_option linter.unusedSimpArgs false

theorem byte_get (s : ByteArray) (j : Nat) (h : j < s.size) : s[j] = s.data.toList.getD j 0 := (text_at s j h).symm
set_option maxRecDepth 100000 in
set_option maxHeartbeats 1000000 in
theorem l2Body_any (s : ByteArray) (F i : Nat) (w : World) (h : F + 1 + i / 63 * 64 + i % 63 < s.size) (hs : s.size ≤ 1048576) (hi : i ≤ 2000000) :
    Calls Tryz.prog 88 #[.string s, .int .i64 F, .int .i64 i] w fun e w' => e = .returned (.int .i64 ((cb s.data.toList F i).toNat : Int)) ∧ Below w.heap.size w w' := by
  have hb := s[F + 1 + i / 63 * 64 + i % 63].toNat_lt
  have HX : Hid (s[F + 1 + i / 63 * 64 + i % 63] = cb s.data.toList F i) := byte_get s _ h
  generalize cb s.data.toList F i = x at *
  have hq : ((i / 63 : Nat) : Int) = (i : Int) / 63 := by omega
  have hr : ((i % 63 : Nat) : Int) = (i : Int) % 63 := by omega
  have h2 : (F : Int) + 1 + (i : Int) / 63 * 64 + (i : Int) % 63 < s.size := by omega
  have h3 : (0 : Int) ≤ (F : Int) + 1 + (i : Int) / 63 * 64 + (i : Int) % 63 := by omega
  go_enter Tryz.func88, Tryz.ntmps88
  go_wp2_with fail
  go_ret
  exact ⟨by rw [← HX.out]; rfl, Below.refl _ _⟩

/-- Whether the pages behind the first go on the frame; whether zeros stand from a to b. -/
def marks (L : List UInt8) (F P : Nat) : Bool := (List.range P).all fun i => decide (i = 0) || (L.getD (F + i * 64) 0 == 99)
def zeros (L : List UInt8) (F a b : Nat) : Bool := (List.range b).all fun i => decide (i < a) || (cb L F i == 0)
/-- What ReadFrame finds at page p. -/
def rfAt (L : List UInt8) (p : Nat) : Option (Nat × List UInt8 × Nat) :=
  if kindOk ((L.getD (p * 64) 0).toNat : Int) = true ∧ word L (p * 64) 0 ≤ 1048576 ∧ p * 64 + 64 * pagesN (8 + word L (p * 64) 0) ≤ L.length ∧ marks L (p * 64) (pagesN (8 + word L (p * 64) 0)) = true ∧
    word L (p * 64) 4 = crc (L.getD (p * 64) 0 :: pay L (p * 64) (word L (p * 64) 0)) ∧ zeros L (p * 64) (8 + word L (p * 64) 0) (63 * pagesN (8 + word L (p * 64) 0)) = true
  then some ((L.getD (p * 64) 0).toNat, pay L (p * 64) (word L (p * 64) 0), p + pagesN (8 + word L (p * 64) 0)) else none
def rf (s : ByteArray) (page : Int) : Option (Nat × List UInt8 × Nat) := if 0 ≤ page ∧ page.toNat * 64 + 64 ≤ s.size then rfAt s.data.toList page.toNat else none
/-- A Framed. -/
def rfV : Option (Nat × List UInt8 × Nat) → Value
  | none => .agg #[.bool false, .int .i64 0, .string ByteArray.empty, .int .i64 0]
  | some (k, l, n) => .agg #[.bool true, .int .i64 k, .string ⟨l.toArray⟩, .int .i64 n]

theorem marks_iff (L : List UInt8) (F P : Nat) : marks L F P = true ↔ ∀ i, 1 ≤ i → i < P → L.getD (F + i * 64) 0 = 99 := by
  simp only [marks, List.all_eq_true, List.mem_range, Bool.or_eq_true, decide_eq_true_eq, beq_iff_eq]
  constructor
  · intro h i h1 h2
    rcases h i h2 with h3 | h3
    · omega
    · exact h3
  · intro h i h2
    by_cases h1 : i = 0
    · exact .inl h1
    · exact .inr (h i (by omega) h2)
theorem zeros_iff (L : List UInt8) (F a b : Nat) : zeros L F a b = true ↔ ∀ i, a ≤ i → i < b → cb L F i = 0 := by
  simp only [zeros, List.all_eq_true, List.mem_range, Bool.or_eq_true, decide_eq_true_eq, beq_iff_eq]
  constructor
  · intro h i h1 h2
    rcases h i h2 with h3 | h3
    · omega
    · exact h3
  · intro h i h2
    by_cases h1 : i < a
    · exact .inl h1
    · exact .inr (h i (by omega) h2)
/-- The same, as the model says it. -/
theorem rfAt_frame {L : List UInt8} {p n k : Nat} (hk : k = (L.getD (p * 64) 0).toNat) (hn : n = word L (p * 64) 0) (h1 : kindOk (k : Int) = true) (h2 : n ≤ 1048576) (h3 : p * 64 + 64 * pagesN (8 + n) ≤ L.length) (h4 : ∀ i, 1 ≤ i → i < pagesN (8 + n) → L.getD (p * 64 + i * 64) 0 = 99) :
    rfAt L p = if frB k (pay L (p * 64) n) = (L.drop (p * 64)).take (64 * pagesN (8 + n)) then some (k, pay L (p * 64) n, p + pagesN (8 + n)) else none := by
  have hk8 : UInt8.ofNat k = L.getD (p * 64) 0 := by rw [hk]; simp
  have hf := frame_iff (s := L) (F := p * 64) (n := n) (k := k) hk8.symm hn h4 h3 (crc_lt _)
  rw [hk8, ← zeros_iff] at hf
  unfold rfAt
  rw [← hn, ← hk]
  by_cases h : frB k (pay L (p * 64) n) = (L.drop (p * 64)).take (64 * pagesN (8 + n))
  · rw [if_pos h, if_pos ⟨h1, h2, h3, (marks_iff _ _ _).2 h4, hf.1 h⟩]
  · rw [if_neg h, if_neg]
    rintro ⟨-, -, -, -, a, b⟩
    exact h (hf.2 ⟨a, b⟩)
theorem rfAt_none {L : List UInt8} {p : Nat} (h : ¬ (kindOk ((L.getD (p * 64) 0).toNat : Int) = true ∧ word L (p * 64) 0 ≤ 1048576 ∧ p * 64 + 64 * pagesN (8 + word L (p * 64) 0) ≤ L.length ∧ marks L (p * 64) (pagesN (8 + word L (p * 64) 0)) = true)) : rfAt L p = none := by
  unfold rfAt
  rw [if_neg]
  rintro ⟨a, b, c, d, -⟩
  exact h ⟨a, b, c, d⟩
end Go.Proofs.YtgmfjninimebmaaGreatDoor
