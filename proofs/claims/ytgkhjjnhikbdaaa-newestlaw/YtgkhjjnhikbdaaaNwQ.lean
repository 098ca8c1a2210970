import Derived.Test.YtgkhjjnhikbdaaaNwO
import Derived.Lib.SliceRun
namespace Go.Proofs.Ytgkhjjnhikbdaaa
open Go.RowKit Go.Maps
set_option linter.unusedVariables false
set_option linter.unusedSimpArgs false

/-- Whether no entry comes before the one ahead of it. -/
def nds (xs : List En) : Bool := (List.range (xs.length - 1)).all fun i => !befE (xs.getD (i + 1) en0) (xs.getD i en0)
theorem nds_iff (xs : List En) : nds xs = true ↔ ∀ i, i + 1 < xs.length → befE (xs.getD (i + 1) en0) (xs.getD i en0) = false := by
  unfold nds
  rw [List.all_eq_true]
  constructor
  · intro h i hi
    have := h i (List.mem_range.2 (by omega))
    simpa using this
  · intro h i hi
    have := h i (by have := List.mem_range.1 hi; omega)
    rw [this]; rfl
theorem srtd_next {xs : List En} (h : ∀ i, i + 1 < xs.length → befE (xs.getD (i + 1) en0) (xs.getD i en0) = false) : Srtd befE xs := by
  refine List.pairwise_iff_getElem.2 fun i j hi hj hij => ?_
  have key : ∀ d, ∀ i, i + d + 1 < xs.length → befE (xs.getD (i + d + 1) en0) (xs.getD i en0) = false := fun d => by
    induction d with
    | zero => intro i hi; exact h i hi
    | succ d ih =>
      intro i hi
      have h1 := ih i (by omega)
      have h2 := h (i + d + 1) (by omega)
      exact befE_swo.neg _ _ _ h2 h1
  have h1 := key (j - i - 1) i (by omega)
  have e : i + (j - i - 1) + 1 = j := by omega
  rw [e] at h1
  have e1 : xs.getD i en0 = xs[i] := by simp [List.getD, hi]
  have e2 : xs.getD j en0 = xs[j] := by simp [List.getD, hj]
  rw [e1, e2] at h1
  exact h1
set_option maxRecDepth 100000 in
set_option maxHeartbeats 4000000 in
theorem isSorted_any (a : Option Addr) (cap : Nat) (xs : List En) (w : World) (hx : LieE w a xs) (hlen : xs.length ≤ 1048576) :
    Calls Try.prog 32 #[.slice a xs.length cap, .func (.func 23) #[] #[]] w fun e w' => e = .returned (.bool (nds xs)) ∧ Below w.heap.size w w' := by
  have HI := hdN (nds_iff xs)
  generalize nds xs = T at *
  have HX := hdN hx
  generalize hn : xs.length = n at *
  have HN := hdN hn
  clear hn hx
  go_enter Try.func32, Try.ntmps32
  go_wp2_with fail
  go_loopw [5] (fun v5 wr => ∃ j : Int, v5 = .int .i64 j ∧ -1 ≤ j ∧ j ≤ (n : Int) - 1 ∧ Hid (∀ i : Nat, j ≤ (i : Int) → i + 1 < n → befE (xs.getD (i + 1) en0) (xs.getD i en0) = false) ∧ Hid (Below w.heap.size w wr)) (fun v5 _ => (intOf v5).toNat)
  case atStart => exact ⟨(n : Int) - 1, by first | rfl | go_num, by omega, by omega, fun i h1 h2 => by omega, Below.refl _ _⟩
  case round =>
    obtain ⟨j, rfl, hj0, hj1, HA, HB⟩ := hrel
    by_cases hj : 0 < j
    · obtain ⟨k, hk⟩ : ∃ k : Nat, j = (k : Int) + 1 := ⟨(j - 1).toNat, by omega⟩
      subst hk
      have hk1 : k + 1 < n := by omega
      have hk2 : (k : Int) + 1 < (n : Int) := by omega
      have hk3 : (k : Int) < (n : Int) := by omega
      have hk4 : (0 : Int) ≤ (k : Int) + 1 := by omega
      have hk5 : (0 : Int) < (k : Int) + 1 := by omega
      have hk6 : ((k : Int) + 1).toNat = k + 1 := by omega
      have hk7 : (k : Int) + 1 - 1 = (k : Int) := by omega
      have hk8 : IntKind.i64.wrap ((k : Int) + 1 - 1) = (k : Int) := by rw [IntKind.wrap_i64]; omega
      have hk9 : IntKind.i64.wrap (k : Int) = (k : Int) := by rw [IntKind.wrap_i64]; omega
      obtain ⟨b, off, rfl, hgl, x0, x1, x2, x3⟩ := (HX.out.below HB.out).at (i := k + 1) (by rw [HN.out]; exact hk1)
      obtain ⟨b', off', e, -, y0, y1, y2, y3⟩ := (HX.out.below HB.out).at (i := k) (by rw [HN.out]; omega)
      cases e
      have HST := hdN (fun h : befE (xs.getD (k + 1) en0) (xs.getD k en0) = false => (fun i h1 h2 => by
        by_cases hik : i = k
        · subst hik; exact h
        · exact HA.out i (by omega) h2 : ∀ i : Nat, (k : Int) ≤ (i : Int) → i + 1 < n → befE (xs.getD (i + 1) en0) (xs.getD i en0) = false))
      have HTK := hdN (fun h : T = true => HI.out.1 h k hk1)
      generalize xs.getD (k + 1) en0 = x at *
      generalize xs.getD k en0 = y at *
      have HC := hdN (entryOrder_any x y wr.drew)
      have HL := hdN (ordE_lt x y)
      cases hbf : befE x y with
      | true =>
        have hlt0 : ordE x y < 0 := by have := HL.out; rw [hbf] at this; simp at this; omega
        have HTF : Hid (T = false) := by
          show _ = _
          cases hT : T with
          | false => rfl
          | true => rw [HTK.out hT] at hbf; cases hbf
        clear hbf HL HST HA HTK
        generalize ordE x y = oi at *
        go_wp2_with fail
        go_region_held3 (fun w' => w'.cell? ⟨b, off + (k + 1) * 4, none⟩ = some (.string x.ky) ∧ w'.cell? ⟨b, off + (k + 1) * 4 + 1, none⟩ = some (.int .i64 x.sq) ∧ w'.cell? ⟨b, off + (k + 1) * 4 + 2, none⟩ = some (.int .i64 x.kd) ∧ w'.cell? ⟨b, off + (k + 1) * 4 + 3, none⟩ = some (.string x.vl) ∧ w'.cell? ⟨b, off + k * 4, none⟩ = some (.string y.ky) ∧ w'.cell? ⟨b, off + k * 4 + 1, none⟩ = some (.int .i64 y.sq) ∧ w'.cell? ⟨b, off + k * 4 + 2, none⟩ = some (.int .i64 y.kd) ∧ w'.cell? ⟨b, off + k * 4 + 3, none⟩ = some (.string y.vl)) (simp [go_sem, *])
          (first | (go_at_call 23; refine HC.out.mono ?_; rintro ee w6 ⟨rfl, hb6⟩; have HG6 := hdN ((Below.refl wr.heap.size wr).drew.trans hb6); have u0 := (HG6.out.cell (p := ⟨b, off + ((k + 1)) * 4, none⟩) hgl).trans x0; have u1 := (HG6.out.cell (p := ⟨b, off + ((k + 1)) * 4 + 1, none⟩) hgl).trans x1; have u2 := (HG6.out.cell (p := ⟨b, off + ((k + 1)) * 4 + 2, none⟩) hgl).trans x2; have u3 := (HG6.out.cell (p := ⟨b, off + ((k + 1)) * 4 + 3, none⟩) hgl).trans x3; have v0 := (HG6.out.cell (p := ⟨b, off + (k) * 4, none⟩) hgl).trans y0; have v1 := (HG6.out.cell (p := ⟨b, off + (k) * 4 + 1, none⟩) hgl).trans y1; have v2 := (HG6.out.cell (p := ⟨b, off + (k) * 4 + 2, none⟩) hgl).trans y2; have v3 := (HG6.out.cell (p := ⟨b, off + (k) * 4 + 3, none⟩) hgl).trans y3; clear hb6))
        have HB6 := hdN (HB.out.trans (HG6.out.mono HB.out.size))
        clear x0 x1 x2 x3 y0 y1 y2 y3 HB HC HG6
        go_wp2_with fail
        go_ret
        exact ⟨by rw [HTF.out]; rfl, HB6.out⟩
      | false =>
        have hlt0 : ¬ ordE x y < 0 := by have := HL.out; rw [hbf] at this; simp at this; omega
        have HNx := hdN (HST.out hbf)
        clear hbf HL HST HA HTK
        generalize ordE x y = oi at *
        go_wp2_with fail
        go_region_held3 (fun w' => w'.cell? ⟨b, off + (k + 1) * 4, none⟩ = some (.string x.ky) ∧ w'.cell? ⟨b, off + (k + 1) * 4 + 1, none⟩ = some (.int .i64 x.sq) ∧ w'.cell? ⟨b, off + (k + 1) * 4 + 2, none⟩ = some (.int .i64 x.kd) ∧ w'.cell? ⟨b, off + (k + 1) * 4 + 3, none⟩ = some (.string x.vl) ∧ w'.cell? ⟨b, off + k * 4, none⟩ = some (.string y.ky) ∧ w'.cell? ⟨b, off + k * 4 + 1, none⟩ = some (.int .i64 y.sq) ∧ w'.cell? ⟨b, off + k * 4 + 2, none⟩ = some (.int .i64 y.kd) ∧ w'.cell? ⟨b, off + k * 4 + 3, none⟩ = some (.string y.vl)) (simp [go_sem, *])
          (first | (go_at_call 23; refine HC.out.mono ?_; rintro ee w6 ⟨rfl, hb6⟩; have HG6 := hdN ((Below.refl wr.heap.size wr).drew.trans hb6); have u0 := (HG6.out.cell (p := ⟨b, off + ((k + 1)) * 4, none⟩) hgl).trans x0; have u1 := (HG6.out.cell (p := ⟨b, off + ((k + 1)) * 4 + 1, none⟩) hgl).trans x1; have u2 := (HG6.out.cell (p := ⟨b, off + ((k + 1)) * 4 + 2, none⟩) hgl).trans x2; have u3 := (HG6.out.cell (p := ⟨b, off + ((k + 1)) * 4 + 3, none⟩) hgl).trans x3; have v0 := (HG6.out.cell (p := ⟨b, off + (k) * 4, none⟩) hgl).trans y0; have v1 := (HG6.out.cell (p := ⟨b, off + (k) * 4 + 1, none⟩) hgl).trans y1; have v2 := (HG6.out.cell (p := ⟨b, off + (k) * 4 + 2, none⟩) hgl).trans y2; have v3 := (HG6.out.cell (p := ⟨b, off + (k) * 4 + 3, none⟩) hgl).trans y3; clear hb6))
        have HB6 := hdN (HB.out.trans (HG6.out.mono HB.out.size))
        clear x0 x1 x2 x3 y0 y1 y2 y3 HB HC HG6
        go_wp2_with fail
        all_goals first
          | exact ⟨⟨(k : Int), by first | rfl | go_num, by omega, by omega, HNx, HB6⟩, by simp only [intOf]; omega⟩
          | (exfalso; rename_i hx; simp at hx; omega)
    · have hS : Hid (T = true) := HI.out.2 (fun i hi => HA.out i (by omega) hi)
      clear HA
      go_wp2_with fail
      go_ret
      exact ⟨by rw [hS.out]; rfl, HB.out⟩
theorem cellsE_app (xs ys : List En) : cellsE (xs ++ ys) = cellsE xs ++ cellsE ys := by simp [cellsE]
theorem cellsE_one (xs : List En) : ∀ u ∈ cellsE xs, u.oneCell' = true := by
  intro u hu
  simp only [cellsE, List.mem_flatMap] at hu
  obtain ⟨e, -, he⟩ := hu
  simp at he
  rcases he with rfl | rfl | rfl | rfl <;> rfl
theorem LieE.cells {w : World} {b off : Nat} {xs : List En} (h : LieE w (some ⟨b, off, none⟩) xs) : ∀ j u, (cellsE xs)[j]? = some u → w.cell? ((⟨b, off, none⟩ : Addr).add j) = some u := by
  intro j u hu
  rw [Go.WideShapes.add_plain]
  have hj : j < (cellsE xs).length := (List.getElem?_eq_some_iff.1 hu).1
  rw [cellsE_len] at hj
  obtain ⟨b', off', e, -, c0, c1, c2, c3⟩ := h.at (i := j / 4) (by omega)
  cases e
  obtain ⟨a0, a1, a2, a3⟩ := cellsE_at xs (j / 4) (by omega)
  have hr : j = j / 4 * 4 ∨ j = j / 4 * 4 + 1 ∨ j = j / 4 * 4 + 2 ∨ j = j / 4 * 4 + 3 := by omega
  generalize j / 4 = q at *
  rcases hr with rfl | rfl | rfl | rfl
  · rw [a0] at hu
    cases hu
    exact c0
  · rw [a1] at hu
    cases hu
    exact c1
  · rw [a2] at hu
    cases hu
    exact c2
  · rw [a3] at hu
    cases hu
    exact c3
set_option maxRecDepth 100000 in
set_option maxHeartbeats 4000000 in
theorem clone_any (b off cap : Nat) (xs : List En) (w : World) (hx : LieE w (some ⟨b, off, none⟩) xs) (hlen : xs.length ≤ 1048576) (h0 : 0 < xs.length) :
    Calls Try.prog 33 #[.slice (some ⟨b, off, none⟩) xs.length cap] w fun e w' => ∃ g c, e = .returned (.slice (some ⟨g, 0, none⟩) xs.length c) ∧ w.heap.size ≤ g ∧ RowE w' g xs.length xs xs.length ∧ Below w.heap.size w w' := by
  obtain ⟨i0, hi, hz0, hz1, hz2⟩ := info_parts iEntry_info
  have HA := hdN (hx.below ((Below.refl w.heap.size w).alloc (Nat.le_refl _) (.cells #[] 40)))
  have HBA := hdN ((Below.refl w.heap.size w).alloc (Nat.le_refl _) (.cells #[] 40))
  have HOW := hdN (ownsE_lit w w.heap.size (Nat.le_refl _))
  have hnil : ∀ w, (binOp .eql 24 (.slice (some ⟨b, off, none⟩) xs.length cap) (.slice none 0 0)).run Try.prog w = .ok (.bool false) w := fun w => Lib.run_eql_slice_nil w 24 40 _ _ _ _ _ Try.underlying24
  clear hx
  go_enter Try.func33, Try.ntmps33
  go_wp2_with (at_builtin; refine wpList_append_own_at _ rfl _ _ 24 rfl w.heap.size 40 i0 _ 4 48 Try.underlying24 hi hz0 hz1 hz2 rfl (by decide) _ _ _ rfl HOW.out ⟨b, off, none⟩ xs.length cap (cellsE xs) rfl (cellsE_len xs) HA.out.cells (cellsE_one xs) (by unfold maxLen; omega) (by omega) (by simp) ?_; intro v' w1 hown hgrow hnil hat; have HO1 := hdN hown; have HG1 := hdN hgrow; clear hown hgrow hnil hat)
  go_ret
  have h1 := HO1.out
  have e1 : cellsE [] ++ cellsE xs = cellsE xs := by simp [cellsE]
  rw [e1] at h1
  obtain ⟨hn, a', c', rfl, hr⟩ := resE_of_owns h1
  rcases hr with hr | ⟨g, rfl, hg, hr⟩
  · rw [hr] at h0; simp at h0
  · exact ⟨g, c', rfl, hg, hr, HBA.out.trans ⟨HG1.out.os, HG1.out.tape, HG1.out.output, HG1.out.size, fun k hk => HG1.out.block k (Nat.lt_of_lt_of_le hk HBA.out.size) (fun h => by have h2 : some k = some w.heap.size := h; injection h2 with h2; omega)⟩⟩
set_option maxRecDepth 100000 in
set_option maxHeartbeats 4000000 in
theorem sortStable_any (g n cap : Nat) (xs : List En) (w : World) (hp : RowE w g n xs n) (hl : xs.length = n) (hn : n ≤ 1048576) :
    Calls Try.prog 34 #[.slice (some ⟨g, 0, none⟩) n cap, .func (.func 23) #[] #[]] w fun ee w' => (∃ v, ee = .returned v) ∧ RowE w' g n (srt befE xs) n ∧ OnlyG g w w' := by
  have HC := hdN (stable_any g n cap xs w hp hl hn)
  clear hp
  go_enter Try.func34, Try.ntmps34
  go_wp2_with fail
  refine HC.out.mono ?_
  rintro e w7 ⟨⟨v7, rfl⟩, HR7, HO7⟩
  go_wp2_with fail
  go_end0
  exact ⟨⟨_, rfl⟩, HR7, HO7⟩
theorem OnlyG.below {p B : Nat} {w w' : World} (h : OnlyG p w w') (hp : B ≤ p) (hB : B ≤ w.heap.size) : Below B w w' := ⟨h.os, h.tape, h.output, h.size, fun k hk => h.block k (Nat.lt_of_lt_of_le hk hB) (by omega)⟩
set_option maxRecDepth 100000 in
set_option maxHeartbeats 4000000 in
theorem sortedEntries_any (a : Option Addr) (cap : Nat) (xs : List En) (w : World) (hx : LieE w a xs) (hlen : xs.length ≤ 1048576) :
    Calls Try.prog 21 #[.slice a xs.length cap] w fun e w' => ∃ a' c', e = .returned (.slice a' xs.length c') ∧ LieE w' a' (srt befE xs) ∧ Below w.heap.size w w' ∧ Hid (a' = a ∨ ∃ g, a' = some ⟨g, 0, none⟩ ∧ w.heap.size ≤ g) := by
  have HX := hdN hx
  have HC := hdN (isSorted_any a cap xs w hx hlen)
  have HI := hdN (nds_iff xs)
  clear hx
  cases hb : nds xs with
  | true =>
    have HS := hdN (srt_self (srtd_next (HI.out.1 hb)))
    rw [hb] at HC
    clear hb HI
    go_enter Try.func21, Try.ntmps21
    go_wp2_with fail
    refine HC.out.mono ?_
    rintro e w1 ⟨rfl, hb1⟩
    have HB1 := hdN hb1
    clear hb1
    go_wp2_with fail
    go_ret
    exact ⟨a, cap, rfl, by rw [HS.out]; exact HX.out.below HB1.out, HB1.out, .inl rfl⟩
  | false =>
    have h2 : 0 < xs.length := by
      rcases Nat.lt_or_ge 0 xs.length with h | h
      · exact h
      · have := HI.out.2 (fun i hi => by omega)
        rw [hb] at this; cases this
    rw [hb] at HC
    clear hb HI
    obtain ⟨b, off, rfl, -⟩ := HX.out.at h2
    have HL : Hid (∀ (g c : Nat) (w1 : World), RowE w1 g xs.length xs xs.length → Calls Try.prog 34 #[.slice (some ⟨g, 0, none⟩) xs.length c, .func (.func 23) #[] #[]] w1 fun ee w' => (∃ v, ee = .returned v) ∧ RowE w' g xs.length (srt befE xs) xs.length ∧ OnlyG g w1 w') := fun g c w1 h => sortStable_any g xs.length c xs w1 h rfl hlen
    have HK := hdN (fun (w1 : World) (h : LieE w1 (some ⟨b, off, none⟩) xs) => clone_any b off cap xs w1 h hlen h2)
    have HSL := hdN (srt_length xs)
    generalize hn : xs.length = n at *
    clear hn
    go_enter Try.func21, Try.ntmps21
    go_wp2_with fail
    refine HC.out.mono ?_
    rintro e w1 ⟨rfl, hb1⟩
    have HB1 := hdN hb1
    clear hb1
    go_wp2_with fail
    refine (HK.out w1 (HX.out.below HB1.out)).mono ?_
    rintro e w2 ⟨g, c, rfl, hg, hr, hb2⟩
    have HR := hdN hr
    have HB2 := hdN (HB1.out.trans (hb2.mono HB1.out.size))
    have HG : Hid (w.heap.size ≤ g) := Nat.le_trans HB1.out.size hg
    clear hr hb2 hg
    go_wp2_with fail
    refine (HL.out g c w2 HR.out).mono ?_
    rintro e w3 ⟨⟨v3, rfl⟩, hr3, ho3⟩
    have HR3 := hdN hr3
    have HO3 := hdN ho3
    clear hr3 ho3
    go_wp2_with fail
    go_ret
    refine ⟨some ⟨g, 0, none⟩, c, rfl, ?_, HB2.out.trans (HO3.out.below HG.out HB2.out.size), .inr ⟨g, rfl, HG.out⟩⟩
    refine ResE.lie (base := 0) (.inr ⟨g, rfl, Nat.zero_le _, ?_⟩)
    rw [HSL.out]
    exact HR3.out
end Go.Proofs.Ytgkhjjnhikbdaaa
