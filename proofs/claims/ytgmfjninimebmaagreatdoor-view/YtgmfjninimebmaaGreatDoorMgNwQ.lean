import Derived.Test.YtgmfjninimebmaaGreatDoorMgNwN
import Derived.Lib.SliceRun
namespace Go.Proofs.YtgmfjninimebmaaGreatDoor
open Go.RowKit Go.Maps
set_option linter.unusedVariables false
set_option linter.unusedSimpArgs false

/-- Whether no entry comes before the one ahead of it. -/
def nds (xs : List En) : Bool := (List.range (xs.length - 1)).all fun i => !befE (xs.getD (i + 1) en0) (xs.getD i en0)
theorem nds_iff (xs : List En) : nds xs = true ↔ ∀ i, i + 1 < xs.length → befE (xs.getD (i + 1) en0) (xs.getD i en0) = false := by
  unfold nds
  rw [List.all_eq_true]
  constructor
  · intro h i hi
    have := h i (List.mem_range.2 (by omega))
    simpa using this
  · intro h i hi
    have := h i (by have := List.mem_range.1 hi; omega)
    rw [this]; rfl
theorem srtd_next {xs : List En} (h : ∀ i, i + 1 < xs.length → befE (xs.getD (i + 1) en0) (xs.getD i en0) = false) : Srtd befE xs := by
  refine List.pairwise_iff_getElem.2 fun i j hi hj hij => ?_
  have key : ∀ d, ∀ i, i + d + 1 < xs.length → befE (xs.getD (i + d + 1) en0) (xs.getD i en0) = false := fun d => by
    induction d with
    | zero => intro i hi; exact h i hi
    | succ d ih =>
      intro i hi
      have h1 := ih i (by omega)
      have h2 := h (i + d + 1) (by omega)
      exact befE_swo.neg _ _ _ h2 h1
  have h1 := key (j - i - 1) i (by omega)
  have e : i + (j - i - 1) + 1 = j := by omega
  rw [e] at h1
  have e1 : xs.getD i en0 = xs[i] := by simp [List.getD, hi]
  have e2 : xs.getD j en0 = xs[j] := by simp [List.getD, hj]
  rw [e1, e2] at h1
  exact h1
set_option maxRecDepth 100000 in
set_option maxHeartbeats 4000000 in
theorem isSorted_any (a : Option Addr) (cap : Nat) (xs : List En) (w : World) (hx : LieE w a xs) (hlen : xs.length ≤ 1048576) :
    Calls Tryz.prog 128 #[.slice a xs.length cap, .func (.func 86) #[] #[]] w fun e w' => e = .returned (.bool (nds xs)) ∧ Below w.heap.size w w' := by
  have HI := hdN (nds_iff xs)
  generalize nds xs = T at *
  have HX := hdN hx
  generalize hn : xs.length = n at *
  have HN := hdN hn
  clear hn hx
  go_enter Tryz.func128, Tryz.ntmps128
  go_wp2_with fail
  go_loopw [5] (fun v5 wr => ∃ j : Int, v5 = .int .i64 j ∧ -1 ≤ j ∧ j ≤ (n : Int) - 1 ∧ Hid (∀ i : Nat, j ≤ (i : Int) → i + 1 < n → befE (xs.getD (i + 1) en0) (xs.getD i en0) = false) ∧ Hid (Below w.heap.size w wr)) (fun v5 _ => (intOf v5).toNat)
  case atStart => exact ⟨(n : Int) - 1, by first | rfl | go_num, by omega, by omega, fun i h1 h2 => by omega, Below.refl _ _⟩
  case round =>
    obtain ⟨j, rfl, hj0, hj1, HA, HB⟩ := hrel
    by_cases hj : 0 < j
    · obtain ⟨k, hk⟩ : ∃ k : Nat, j = (k : Int) + 1 := ⟨(j - 1).toNat, by omega⟩
      subst hk
      have hk1 : k + 1 < n := by omega
      have hk2 : (k : Int) + 1 < (n : Int) := by omega
      have hk3 : (k : Int) < (n : Int) := by omega
      have hk4 : (0 : Int) ≤ (k : Int) + 1 := by omega
      have hk5 : (0 : Int) < (k : Int) + 1 := by omega
      have hk6 : ((k : Int) + 1).toNat = k + 1 := by omega
      have hk7 : (k : Int) + 1 - 1 = (k : Int) := by omega
      have hk8 : IntKind.i64.wrap ((k : Int) + 1 - 1) = (k : Int) := by rw [IntKind.wrap_i64]; omega
      have hk9 : IntKind.i64.wrap (k : Int) = (k : Int) := by rw [IntKind.wrap_i64]; omega
      obtain ⟨b, off, rfl, hgl, x0, x1, x2, x3⟩ := (HX.out.below HB.out).at (i := k + 1) (by rw [HN.out]; exact hk1)
      obtain ⟨b', off', e, -, y0, y1, y2, y3⟩ := (HX.out.below HB.out).at (i := k) (by rw [HN.out]; omega)
      cases e
      have HST := hdN (fun h : befE (xs.getD (k + 1) en0) (xs.getD k en0) = false => (fun i h1 h2 => by
        by_cases hik : i = k
        · subst hik; exact h
        · exact HA.out i (by omega) h2 : ∀ i : Nat, (k : Int) ≤ (i : Int) → i + 1 < n → befE (xs.getD (i + 1) en0) (xs.getD i en0) = false))
      have HTK := hdN (fun h : T = true => HI.out.1 h k hk1)
      generalize xs.getD (k + 1) en0 = x at *
      generalize xs.getD k en0 = y at *
      have HC := hdN (entryOrder_any x y wr.drew)
      have HL := hdN (ordE_lt x y)
      cases hbf : befE x y with
      | true =>
        have hlt0 : ordE x y < 0 := by have := HL.out; rw [hbf] at this; simp at this; omega
        have HTF : Hid (T = false) := by
          show _ = _
          cases hT : T with
          | false => rfl
          | true => rw [HTK.out hT] at hbf; cases hbf
        clear hbf HL HST HA HTK
        generalize ordE x y = oi at *
        go_wp2_with fail
        go_region_held3 (fun w' => w'.cell? ⟨b, off + (k + 1) * 4, none⟩ = some (.string x.ky) ∧ w'.cell? ⟨b, off + (k + 1) * 4 + 1, none⟩ = some (.int .i64 x.sq) ∧ w'.cell? ⟨b, off + (k + 1) * 4 + 2, none⟩ = some (.int .i64 x.kd) ∧ w'.cell? ⟨b, off + (k + 1) * 4 + 3, none⟩ = some (.string x.vl) ∧ w'.cell? ⟨b, off + k * 4, none⟩ = some (.string y.ky) ∧ w'.cell? ⟨b, off + k * 4 + 1, none⟩ = some (.int .i64 y.sq) ∧ w'.cell? ⟨b, off + k * 4 + 2, none⟩ = some (.int .i64 y.kd) ∧ w'.cell? ⟨b, off + k * 4 + 3, none⟩ = some (.string y.vl)) (simp [go_sem, *])
          (first | (go_at_call 86; refine HC.out.mono ?_; rintro ee w6 ⟨rfl, hb6⟩; have HG6 := hdN ((Below.refl wr.heap.size wr).drew.trans hb6); have u0 := (HG6.out.cell (p := ⟨b, off + ((k + 1)) * 4, none⟩) hgl).trans x0; have u1 := (HG6.out.cell (p := ⟨b, off + ((k + 1)) * 4 + 1, none⟩) hgl).trans x1; have u2 := (HG6.out.cell (p := ⟨b, off + ((k + 1)) * 4 + 2, none⟩) hgl).trans x2; have u3 := (HG6.out.cell (p := ⟨b, off + ((k + 1)) * 4 + 3, none⟩) hgl).trans x3; have v0 := (HG6.out.cell (p := ⟨b, off + (k) * 4, none⟩) hgl).trans y0; have v1 := (HG6.out.cell (p := ⟨b, off + (k) * 4 + 1, none⟩) hgl).trans y1; have v2 := (HG6.out.cell (p := ⟨b, off + (k) * 4 + 2, none⟩) hgl).trans y2; have v3 := (HG6.out.cell (p := ⟨b, off + (k) * 4 + 3, none⟩) hgl).trans y3; clear hb6))
        have HB6 := hdN (HB.out.trans (HG6.out.mono HB.out.size))
        clear x0 x1 x2 x3 y0 y1 y2 y3 HB HC HG6
        go_wp2_with fail
        go_ret
        exact ⟨by rw [HTF.out]; rfl, HB6.out⟩
      | false =>
        have hlt0 : ¬ ordE x y < 0 := by have := HL.out; rw [hbf] at this; simp at this; omega
        have HNx := hdN (HST.out hbf)
        clear hbf HL HST HA HTK
        generalize ordE x y = oi at *
        go_wp2_with fail
        go_region_held3 (fun w' => w'.cell? ⟨b, off + (k + 1) * 4, none⟩ = some (.string x.ky) ∧ w'.cell? ⟨b, off + (k + 1) * 4 + 1, none⟩ = some (.int .i64 x.sq) ∧ w'.cell? ⟨b, off + (k + 1) * 4 + 2, none⟩ = some (.int .i64 x.kd) ∧ w'.cell? ⟨b, off + (k + 1) * 4 + 3, none⟩ = some (.string x.vl) ∧ w'.cell? ⟨b, off + k * 4, none⟩ = some (.string y.ky) ∧ w'.cell? ⟨b, off + k * 4 + 1, none⟩ = some (.int .i64 y.sq) ∧ w'.cell? ⟨b, off + k * 4 + 2, none⟩ = some (.int .i64 y.kd) ∧ w'.cell? ⟨b, off + k * 4 + 3, none⟩ = some (.string y.vl)) (simp [go_sem, *])
          (first | (go_at_call 86; refine HC.out.mono ?_; rintro ee w6 ⟨rfl, hb6⟩; have HG6 := hdN ((Below.refl wr.heap.size wr).drew.trans hb6); have u0 := (HG6.out.cell (p := ⟨b, off + ((k + 1)) * 4, none⟩) hgl).trans x0; have u1 := (HG6.out.cell (p := ⟨b, off + ((k + 1)) * 4 + 1, none⟩) hgl).trans x1; have u2 := (HG6.out.cell (p := ⟨b, off + ((k + 1)) * 4 + 2, none⟩) hgl).trans x2; have u3 := (HG6.out.cell (p := ⟨b, off + ((k + 1)) * 4 + 3, none⟩) hgl).trans x3; have v0 := (HG6.out.cell (p := ⟨b, off + (k) * 4, none⟩) hgl).trans y0; have v1 := (HG6.out.cell (p := ⟨b, off + (k) * 4 + 1, none⟩) hgl).trans y1; have v2 := (HG6.out.cell (p := ⟨b, off + (k) * 4 + 2, none⟩) hgl).trans y2; have v3 := (HG6.out.cell (p := ⟨b, off + (k) * 4 + 3, none⟩) hgl).trans y3; clear hb6))
        have HB6 := hdN (HB.out.trans (HG6.out.mono HB.out.size))
        clear x0 x1 x2 x3 y0 y1 y2 y3 HB HC HG6
        go_wp2_with fail
        all_goals first
          | exact ⟨⟨(k : Int), by first | rfl | go_num, by omega, by omega, HNx, HB6⟩, by simp only [intOf]; omega⟩
          | (exfalso; rename_i hx; simp at hx; omega)
    · have hS : Hid (T = true) := HI.out.2 (fun i hi => HA.out i (by omega) hi)
      clear HA
      go_wp2_with fail
      go_ret
      exact ⟨by rw [hS.out]; rfl, HB.out⟩
set_option maxRecDepth 100000 in
set_option maxHeartbeats 4000000 in
theorem clone_any (b off cap : Nat) (xs : List En) (w : World) (hx : LieE w (some ⟨b, off, none⟩) xs) (hlen : xs.length ≤ 1048576) (h0 : 0 < xs.length) :
    Calls Tryz.prog 129 #[.slice (some ⟨b, off, none⟩) xs.length cap] w fun e w' => ∃ g c, e = .returned (.slice (some ⟨g, 0, none⟩) xs.length c) ∧ w.heap.size ≤ g ∧ RowE w' g xs.length xs xs.length ∧ Below w.heap.size w w' := by
  obtain ⟨i0, hi, hz0, hz1, hz2⟩ := info_parts iEntry_info
  have HA := hdN (hx.below ((Below.refl w.heap.size w).alloc (Nat.le_refl _) (.cells #[] 50)))
  have HBA := hdN ((Below.refl w.heap.size w).alloc (Nat.le_refl _) (.cells #[] 50))
  have HOW := hdN (ownsE_lit w w.heap.size (Nat.le_refl _))
  have hnil : ∀ w, (binOp .eql 26 (.slice (some ⟨b, off, none⟩) xs.length cap) (.slice none 0 0)).run Tryz.prog w = .ok (.bool false) w := fun w => Lib.run_eql_slice_nil w 26 50 _ _ _ _ _ Tryz.underlying26
  clear hx
  go_enter Tryz.func129, Tryz.ntmps129
  go_wp2_with (at_builtin; refine wpList_append_own_at _ rfl _ _ 26 rfl w.heap.size 50 i0 _ 4 48 Tryz.underlying26 hi hz0 hz1 hz2 rfl (by decide) _ _ _ rfl HOW.out ⟨b, off, none⟩ xs.length cap (cellsE xs) rfl (cellsE_len xs) HA.out.cells (cellsE_one xs) (by unfold maxLen; omega) (by omega) (by simp) ?_; intro v' w1 hown hgrow hnil hat; have HO1 := hdN hown; have HG1 := hdN hgrow; clear hown hgrow hnil hat)
  go_ret
  have h1 := HO1.out
  have e1 : cellsE [] ++ cellsE xs = cellsE xs := by simp [cellsE]
  rw [e1] at h1
  obtain ⟨hn, a', c', rfl, hr⟩ := resE_of_owns h1
  rcases hr with hr | ⟨g, rfl, hg, hr⟩
  · rw [hr] at h0; simp at h0
  · exact ⟨g, c', rfl, hg, hr, HBA.out.trans ⟨HG1.out.os, HG1.out.tape, HG1.out.output, HG1.out.size, fun k hk => HG1.out.block k (Nat.lt_of_lt_of_le hk HBA.out.size) (fun h => by have h2 : some k = some w.heap.size := h; injection h2 with h2; omega)⟩⟩
set_option maxRecDepth 100000 in
set_option maxHeartbeats 4000000 in
theorem sortStable_any (g n cap : Nat) (xs : List En) (w : World) (hp : RowE w g n xs n) (hl : xs.length = n) (hn : n ≤ 1048576) :
    Calls Tryz.prog 130 #[.slice (some ⟨g, 0, none⟩) n cap, .func (.func 86) #[] #[]] w fun ee w' => (∃ v, ee = .returned v) ∧ RowE w' g n (srt befE xs) n ∧ OnlyG g w w' := by
  have HC := hdN (stable_any g n cap xs w hp hl hn)
  clear hp
  go_enter Tryz.func130, Tryz.ntmps130
  go_wp2_with fail
  refine HC.out.mono ?_
  rintro e w7 ⟨⟨v7, rfl⟩, HR7, HO7⟩
  go_wp2_with fail
  go_end0
  exact ⟨⟨_, rfl⟩, HR7, HO7⟩
theorem OnlyG.below {p B : Nat} {w w' : World} (h : OnlyG p w w') (hp : B ≤ p) (hB : B ≤ w.heap.size) : Below B w w' := ⟨h.os, h.tape, h.output, h.size, fun k hk => h.block k (Nat.lt_of_lt_of_le hk hB) (by omega)⟩
set_option maxRecDepth 100000 in
set_option maxHeartbeats 4000000 in
theorem sortedEntries_any (a : Option Addr) (cap : Nat) (xs : List En) (w : World) (hx : LieE w a xs) (hlen : xs.length ≤ 1048576) :
    Calls Tryz.prog 84 #[.slice a xs.length cap] w fun e w' => ∃ a' c', e = .returned (.slice a' xs.length c') ∧ LieE w' a' (srt befE xs) ∧ Below w.heap.size w w' ∧ Hid (a' = a ∨ ∃ g, a' = some ⟨g, 0, none⟩ ∧ w.heap.size ≤ g) := by
  have HX := hdN hx
  have HC := hdN (isSorted_any a cap xs w hx hlen)
  have HI := hdN (nds_iff xs)
  clear hx
  cases hb : nds xs with
  | true =>
    have HS := hdN (srt_self (srtd_next (HI.out.1 hb)))
    rw [hb] at HC
    clear hb HI
    go_enter Tryz.func84, Tryz.ntmps84
    go_wp2_with fail
    refine HC.out.mono ?_
    rintro e w1 ⟨rfl, hb1⟩
    have HB1 := hdN hb1
    clear hb1
    go_wp2_with fail
    go_ret
    exact ⟨a, cap, rfl, by rw [HS.out]; exact HX.out.below HB1.out, HB1.out, .inl rfl⟩
  | false =>
    have h2 : 0 < xs.length := by
      rcases Nat.lt_or_ge 0 xs.length with h | h
      · exact h
      · have := HI.out.2 (fun i hi => by omega)
        rw [hb] at this; cases this
    rw [hb] at HC
    clear hb HI
    obtain ⟨b, off, rfl, -⟩ := HX.out.at h2
    have HL : Hid (∀ (g c : Nat) (w1 : World), RowE w1 g xs.length xs xs.length → Calls Tryz.prog 130 #[.slice (some ⟨g, 0, none⟩) xs.length c, .func (.func 86) #[] #[]] w1 fun ee w' => (∃ v, ee = .returned v) ∧ RowE w' g xs.length (srt befE xs) xs.length ∧ OnlyG g w1 w') := fun g c w1 h => sortStable_any g xs.length c xs w1 h rfl hlen
    have HK := hdN (fun (w1 : World) (h : LieE w1 (some ⟨b, off, none⟩) xs) => clone_any b off cap xs w1 h hlen h2)
    have HSL := hdN (srt_length xs)
    generalize hn : xs.length = n at *
    clear hn
    go_enter Tryz.func84, Tryz.ntmps84
    go_wp2_with fail
    refine HC.out.mono ?_
    rintro e w1 ⟨rfl, hb1⟩
    have HB1 := hdN hb1
    clear hb1
    go_wp2_with fail
    refine (HK.out w1 (HX.out.below HB1.out)).mono ?_
    rintro e w2 ⟨g, c, rfl, hg, hr, hb2⟩
    have HR := hdN hr
    have HB2 := hdN (HB1.out.trans (hb2.mono HB1.out.size))
    have HG : Hid (w.heap.size ≤ g) := Nat.le_trans HB1.out.size hg
    clear hr hb2 hg
    go_wp2_with fail
    refine (HL.out g c w2 HR.out).mono ?_
    rintro e w3 ⟨⟨v3, rfl⟩, hr3, ho3⟩
    have HR3 := hdN hr3
    have HO3 := hdN ho3
    clear hr3 ho3
    go_wp2_with fail
    go_ret
    refine ⟨some ⟨g, 0, none⟩, c, rfl, ?_, HB2.out.trans (HO3.out.below HG.out HB2.out.size), .inr ⟨g, rfl, HG.out⟩⟩
    refine ResE.lie (base := 0) (.inr ⟨g, rfl, Nat.zero_le _, ?_⟩)
    rw [HSL.out]
    exact HR3.out
end Go.Proofs.YtgmfjninimebmaaGreatDoor
namespace Go.Proofs.YtgmfjninimebmaaGreatDoor
open Go.RowKit Go.Maps
set_option linter.unusedVariables false
set_option linter.unusedSimpArgs false

/-- A source: the block of its place, the block of its list, the list. -/
structure SD where
  pa : Nat
  pl : Nat
  a : Option Addr
  cap : Nat
  xs : List En
def sd0 : SD := ⟨0, 0, none, 0, []⟩
abbrev SD.fn (c : SD) : Value := .func (.func 127) #[] #[.pointer (some ⟨c.pa, 0, none⟩), .pointer (some ⟨c.pl, 0, none⟩)]
/-- The source has given i entries. -/
structure SrcAt (w : World) (c : SD) (i : Nat) : Prop where
  at_ : w.heap[c.pa]? = some (.cells #[.int .i64 (i : Int)] 3 (0, 0))
  li : w.heap[c.pl]? = some (.cells #[.slice c.a c.xs.length c.cap] 26 (0, 0))
  ls : LieE w c.a c.xs
  le : i ≤ c.xs.length
  ln : c.xs.length ≤ 1048576
theorem SrcAt.below {w w' : World} {c : SD} {i : Nat} (h : SrcAt w c i) (hb : Below w.heap.size w w') : SrcAt w' c i :=
  ⟨(hb.block _ (heap_lt h.at_)).trans h.at_, (hb.block _ (heap_lt h.li)).trans h.li, h.ls.below hb, h.le, h.ln⟩
theorem oneN {w : World} {g : Nat} {v : Value} {t : TypeId} (h : w.heap[g]? = some (.cells #[v] t (0, 0))) : w.cell? ⟨g, 0, none⟩ = some v ∧ w.frozen? ⟨g, 0, none⟩ = false := by
  constructor <;> simp [World.cell?, World.frozen?, h]
set_option maxRecDepth 100000 in
set_option maxHeartbeats 4000000 in
theorem sourceOf_any (a : Option Addr) (cap : Nat) (xs : List En) (w : World) (hx : LieE w a xs) (hl : xs.length ≤ 1048576) :
    Calls Tryz.prog 83 #[.slice a xs.length cap] w fun e w' => e = .returned (SD.fn ⟨w.heap.size + 1, w.heap.size, a, cap, xs⟩) ∧ w'.heap.size = w.heap.size + 2 ∧ SrcAt w' ⟨w.heap.size + 1, w.heap.size, a, cap, xs⟩ 0 ∧ Below w.heap.size w w' := by
  go_enter Tryz.func83, Tryz.ntmps83
  go_wp2_with fail
  go_ret
  refine ⟨rfl, by simp, ⟨?_, ?_, ?_, Nat.zero_le _, hl⟩, ?_⟩
  · have h := World.heap_alloc_new (w.alloc (.cells #[.slice a xs.length cap] 26)) (.cells #[.int .i64 0] 3)
    rwa [show (w.alloc (.cells #[.slice a xs.length cap] 26)).heap.size = w.heap.size + 1 by simp] at h
  · rw [Below.heap_alloc _ _ _ (by simp)]; exact World.heap_alloc_new _ _
  · exact hx.below (((Below.refl _ _).alloc (Nat.le_refl _) _).alloc (by simp) _)
  · exact ((Below.refl _ _).alloc (Nat.le_refl _) _).alloc (by simp) _
set_option maxRecDepth 100000 in
set_option maxHeartbeats 4000000 in
theorem next_none (c : SD) (w : World) (h : SrcAt w c c.xs.length) :
    Calls Tryz.prog 127 #[.pointer (some ⟨c.pa, 0, none⟩), .pointer (some ⟨c.pl, 0, none⟩)] w fun e w' => e = .returned (.tuple #[en0.agg, .bool false]) ∧ Below w.heap.size w w' := by
  obtain ⟨x0, x1⟩ := oneN h.at_
  obtain ⟨y0, y1⟩ := oneN h.li
  have l0 := heap_lt h.at_
  have l1 := heap_lt h.li
  have hn := h.ln
  clear h
  generalize c.xs.length = n at *
  go_enter Tryz.func127, Tryz.ntmps127
  go_wp2_with fail
  refine bodyPost_ret (v := .tuple #[.agg #[.string ⟨#[]⟩, .int .i64 0, .int .i64 0, .string ⟨#[]⟩], .bool false]) (by simp [results, Tryz.results127, go_sem]) rfl ?_
  exact ⟨rfl, ((Below.refl _ _).alloc (Nat.le_refl _) _).alloc (by simp) _⟩
theorem int_not_string {w : World} {g o : Nat} {z : Int} {s : ByteArray} {t : TypeId} (h : w.heap[g]? = some (.cells #[.int .i64 z] t (0, 0))) (hc : w.cell? ⟨g, o, none⟩ = some (.string s)) : False := by
  simp [World.cell?, h] at hc
  match o, hc with
  | 0, hc => simp at hc
  | o + 1, hc => simp at hc
theorem LieE.setAt {w w' : World} {a : Option Addr} {xs : List En} {p : Nat} {z : Int} (h : LieE w a xs) (hp : w.heap[p]? = some (.cells #[.int .i64 z] 3 (0, 0))) (ho : OnlyG p w w') : LieE w' a xs := by
  rcases h with rfl | ⟨b, off, rfl, hlt, hc⟩
  · exact .inl rfl
  · by_cases hn : xs = []
    · exact .inl hn
    · have hb : b ≠ p := fun e => by
        subst e
        obtain ⟨h1, -⟩ := hc 0 (List.length_pos_iff.2 hn)
        exact int_not_string hp h1
      have hk : ∀ o, w'.cell? ⟨b, o, none⟩ = w.cell? ⟨b, o, none⟩ := fun o => by simp only [World.cell?, ho.block b hlt hb]
      refine .inr ⟨b, off, rfl, Nat.lt_of_lt_of_le hlt ho.size, fun i hi => ?_⟩
      obtain ⟨h1, h2, h3, h4⟩ := hc i hi
      exact ⟨(hk _).trans h1, (hk _).trans h2, (hk _).trans h3, (hk _).trans h4⟩
theorem OnlyG.alloc {p : Nat} {w w' : World} (h : OnlyG p w w') (o : Obj) : OnlyG p w (w'.alloc o) := h.trans (OnlyG.of ((Below.refl _ _).alloc (Nat.le_refl _) _))
theorem OnlyG.refl (p : Nat) (w : World) : OnlyG p w w := ⟨rfl, rfl, rfl, Nat.le_refl _, fun _ _ _ => rfl⟩
set_option maxRecDepth 100000 in
set_option maxHeartbeats 4000000 in
theorem next_some (c : SD) (i : Nat) (w : World) (h : SrcAt w c i) (hi : i < c.xs.length) :
    Calls Tryz.prog 127 #[.pointer (some ⟨c.pa, 0, none⟩), .pointer (some ⟨c.pl, 0, none⟩)] w fun e w' => e = .returned (.tuple #[(c.xs.getD i en0).agg, .bool true]) ∧ SrcAt w' c (i + 1) ∧ OnlyG c.pa w w' := by
  have H := hdN h
  obtain ⟨x0, x1⟩ := oneN h.at_
  obtain ⟨y0, y1⟩ := oneN h.li
  have l0 := heap_lt h.at_
  have l1 := heap_lt h.li
  have hne : ¬ c.pl = c.pa := fun e => by
    have h1 := h.li
    rw [e, h.at_] at h1
    injection h1 with h1
    injection h1 with h2 h3
    simp at h2
  have hne' : ¬ c.pa = c.pl := fun e => hne e.symm
  obtain ⟨b, off, ha, hlb, z0, z1, z2, z3⟩ := h.ls.at hi
  have hpb : ¬ b = c.pa := fun e => int_not_string h.at_ (e ▸ z0)
  have hpb' : ¬ c.pa = b := fun e => hpb e.symm
  have hn := h.ln
  rw [ha] at y0
  clear ha h
  have hi0 : (i : Int) < (c.xs.length : Int) := by omega
  have hi1 : ¬ (i : Int) = (c.xs.length : Int) := by omega
  have hi2 : ((i : Int) == (c.xs.length : Int)) = false := by simp; omega
  have hi3 : ¬ i = c.xs.length := by omega
  have hi4 : (i : Int) + 1 - 1 = (i : Int) := by omega
  generalize hx : c.xs.getD i en0 = x at *
  generalize hnn : c.xs.length = n at *
  have HX := hdN hx
  have HNN := hdN hnn
  clear hx hnn
  go_enter Tryz.func127, Tryz.ntmps127
  go_wp2_with fail
  refine bodyPost_ret (v := .tuple #[.agg #[.string x.ky, .int .i64 x.sq, .int .i64 x.kd, .string x.vl], .bool true]) (by simp [results, Tryz.results127, go_sem]) rfl ?_
  have hO : OnlyG c.pa w (w.setCell ⟨c.pa, 0, none⟩ (.int .i64 ((i : Int) + 1))) := OnlyG.set _ _ _
  refine ⟨rfl, SrcAt.below (w := w.setCell ⟨c.pa, 0, none⟩ (.int .i64 ((i : Int) + 1))) ⟨?_, ?_, H.out.ls.setAt H.out.at_ hO, by rw [HNN.out]; exact hi, H.out.ln⟩ ((Below.refl _ _).alloc (Nat.le_refl _) _), hO.alloc _⟩
  · have h := heap_setCell_same w c.pa 0 _ _ (.int .i64 ((i : Int) + 1)) H.out.at_
    simpa using h
  · exact (hO.block _ l1 hne).trans H.out.li
end Go.Proofs.YtgmfjninimebmaaGreatDoor
namespace Go.Proofs.YtgmfjninimebmaaGreatDoor
open Go.RowKit Go.Maps
set_option linter.unusedVariables false
set_option linter.unusedSimpArgs false

theorem ordE_eq (a b : En) : ordE a b = 0 ↔ (befE a b = false ∧ befE b a = false) := by
  obtain ⟨h1, h2⟩ := compare_less a.ky.data.toList b.ky.data.toList
  constructor
  · intro h
    unfold ordE at h
    by_cases hz : Lib.compareBytes a.ky.data.toList b.ky.data.toList = 0
    · rw [if_neg (by rw [hz]; simp)] at h
      have he : a.ky = b.ky := ByteArray.ext (Array.toList_inj.1 (h2.1 hz))
      have hs : a.sq = b.sq := by
        unfold cmpI at h
        by_cases c1 : b.sq < a.sq
        · rw [if_pos c1] at h; omega
        · rw [if_neg c1] at h
          by_cases c2 : a.sq < b.sq
          · rw [if_pos c2] at h; omega
          · omega
      unfold befE
      rw [if_pos he, if_pos he.symm]
      simp [hs]
    · rw [if_pos hz] at h; exact absurd h hz
  · rintro ⟨f1, f2⟩
    have he : a.ky = b.ky := by
      rcases Decidable.em (a.ky = b.ky) with he | he
      · exact he
      · rcases lessB_totN he with h | h
        · unfold befE at f1; rw [if_neg he, h] at f1; cases f1
        · unfold befE at f2; rw [if_neg (fun e => he e.symm), h] at f2; cases f2
    have hz : Lib.compareBytes a.ky.data.toList b.ky.data.toList = 0 := h2.2 (by rw [he])
    unfold befE at f1 f2
    rw [if_pos he] at f1
    rw [if_pos he.symm] at f2
    unfold ordE
    rw [if_neg (by rw [hz]; simp)]
    unfold cmpI
    simp at f1 f2
    rw [if_neg (by omega), if_neg (by omega)]
/-- The order of the fronts: by their entries, then by their places. -/
def ltF (x : En) (p : Nat) (y : En) (q : Nat) : Bool := befE x y || (!befE y x && decide (p < q))
theorem ltF_or (x y : En) (p q : Nat) : decide (orI (ordE x y) (cmpI (p : Int) (q : Int)) < 0) = ltF x p y q := by
  have h1 := ordE_lt x y
  have h2 := ordE_eq x y
  unfold orI ltF
  by_cases hz : ordE x y = 0
  · obtain ⟨f1, f2⟩ := h2.1 hz
    rw [if_neg (by simp [hz]), f1, f2]
    unfold cmpI
    by_cases c1 : p < q
    · rw [if_pos (by omega)]; simp [c1]
    · rw [if_neg (by omega)]
      by_cases c2 : q < p
      · rw [if_pos (by omega)]; simp [c1]
      · rw [if_neg (by omega)]; simp [c1]
  · rw [if_pos hz]
    cases hb : befE x y with
    | true => rw [hb] at h1; simp at h1; simp; omega
    | false =>
      rw [hb] at h1
      simp at h1
      cases hc : befE y x with
      | true => simp; omega
      | false => exact absurd (h2.2 ⟨hb, hc⟩) hz
def ltP (hd : Nat → En) (p q : Nat) : Bool := ltF (hd p) p (hd q) q
theorem ltP_swo (hd : Nat → En) : Swo (ltP hd) := by
  refine ⟨fun a => ?_, fun a b c h1 h2 => ?_, fun a b c h1 h2 => ?_⟩
  · simp [ltP, ltF, befE_swo.irr]
  · simp only [ltP, ltF, Bool.or_eq_true, Bool.and_eq_true, Bool.not_eq_true', decide_eq_true_iff] at h1 h2 ⊢
    rcases h1 with h1 | ⟨h1, k1⟩ <;> rcases h2 with h2 | ⟨h2, k2⟩
    · exact .inl (befE_swo.tr _ _ _ h1 h2)
    · exact .inl (lt_of_lt_le h1 h2)
    · exact .inl (lt_of_le_lt h1 h2)
    · exact .inr ⟨befE_swo.neg _ _ _ h2 h1, by omega⟩
  · simp only [ltP, ltF, Bool.or_eq_false_iff, Bool.and_eq_false_iff, Bool.not_eq_false', decide_eq_false_iff_not] at h1 h2 ⊢
    obtain ⟨f1, g1⟩ := h1
    obtain ⟨f2, g2⟩ := h2
    refine ⟨befE_swo.neg _ _ _ f1 f2, ?_⟩
    rcases g1 with g1 | g1 <;> rcases g2 with g2 | g2
    · exact .inl (befE_swo.tr _ _ _ g2 g1)
    · exact .inl (lt_of_le_lt f2 g1)
    · exact .inl (lt_of_lt_le g2 f1)
    · cases hc : befE (hd c) (hd a) with
      | true => exact .inl rfl
      | false => exact .inr (by omega)
/-- From index i on each comes not before the one above it. -/
def HpF (lt : Nat → Nat → Bool) (ps : List Nat) (i : Nat) : Prop := ∀ c, 0 < c → c < ps.length → i ≤ (c - 1) / 2 → lt (ps.getD c 0) (ps.getD ((c - 1) / 2) 0) = false
/-- On the way down: all is in order but at index i. -/
structure SnkI (lt : Nat → Nat → Bool) (ps : List Nat) (i0 i : Nat) : Prop where
  le : i0 ≤ i
  ok : ∀ c, 0 < c → c < ps.length → i0 ≤ (c - 1) / 2 → (c - 1) / 2 ≠ i → lt (ps.getD c 0) (ps.getD ((c - 1) / 2) 0) = false
  up : i ≠ i0 → i0 ≤ (i - 1) / 2 ∧ ∀ c, 0 < c → c < ps.length → (c - 1) / 2 = i → lt (ps.getD c 0) (ps.getD ((i - 1) / 2) 0) = false
theorem SnkI.start {lt : Nat → Nat → Bool} {ps : List Nat} {i : Nat} (h : HpF lt ps (i + 1)) : SnkI lt ps i i :=
  ⟨Nat.le_refl _, fun c h1 h2 h3 h4 => h c h1 h2 (by omega), fun h => absurd rfl h⟩
/-- How far the search among the two below has come. -/
structure ChI (lt : Nat → Nat → Bool) (ps : List Nat) (i c l : Nat) : Prop where
  c1 : 2 * i + 1 ≤ c
  c2 : c ≤ 2 * i + 3
  l1 : l = i ∨ (2 * i + 1 ≤ l ∧ l < c ∧ l < ps.length ∧ lt (ps.getD l 0) (ps.getD i 0) = true)
  ok : ∀ d, 2 * i + 1 ≤ d → d < c → d < ps.length → lt (ps.getD d 0) (ps.getD l 0) = false
theorem ChI.start (lt : Nat → Nat → Bool) (ps : List Nat) (i : Nat) : ChI lt ps i (2 * i + 1) i := ⟨Nat.le_refl _, by omega, .inl rfl, fun d h1 h2 => by omega⟩
theorem ChI.take {lt : Nat → Nat → Bool} (hs : Swo lt) {ps : List Nat} {i c l : Nat} (h : ChI lt ps i c l) (hc : c ≤ 2 * i + 2) (hl : c < ps.length) (hlt : lt (ps.getD c 0) (ps.getD l 0) = true) : ChI lt ps i (c + 1) c := by
  refine ⟨by have := h.c1; omega, by omega, .inr ⟨h.c1, by omega, hl, ?_⟩, fun d h1 h2 h3 => ?_⟩
  · rcases h.l1 with rfl | ⟨_, _, _, h4⟩
    · exact hlt
    · exact hs.tr _ _ _ hlt h4
  · by_cases hd : d = c
    · subst hd; exact hs.irr _
    · have h4 := h.ok d h1 (by omega) h3
      cases hx : lt (ps.getD d 0) (ps.getD c 0) with
      | false => rfl
      | true => rw [hs.tr _ _ _ hx hlt] at h4; cases h4
theorem ChI.pass {lt : Nat → Nat → Bool} {ps : List Nat} {i c l : Nat} (h : ChI lt ps i c l) (hc : c ≤ 2 * i + 2) (hlt : lt (ps.getD c 0) (ps.getD l 0) = false) : ChI lt ps i (c + 1) l := by
  refine ⟨by have := h.c1; omega, by omega, ?_, fun d h1 h2 h3 => ?_⟩
  · rcases h.l1 with h1 | ⟨h1, h2, h3, h4⟩
    · exact .inl h1
    · exact .inr ⟨h1, by omega, h3, h4⟩
  · by_cases hd : d = c
    · subst hd; exact hlt
    · exact h.ok d h1 (by omega) h3
/-- Two of a row change places. -/
def swpP (ps : List Nat) (i j : Nat) : List Nat := (ps.set i (ps.getD j 0)).set j (ps.getD i 0)
theorem swpP_length (ps : List Nat) (i j : Nat) : (swpP ps i j).length = ps.length := by simp [swpP]
theorem swpP_get (ps : List Nat) {i j : Nat} (hi : i < ps.length) (hj : j < ps.length) (hij : i ≠ j) (k : Nat) : (swpP ps i j).getD k 0 = if k = j then ps.getD i 0 else if k = i then ps.getD j 0 else ps.getD k 0 := by
  unfold swpP
  rw [List.getD_eq_getElem?_getD, List.getElem?_set]
  by_cases h1 : j = k
  · subst h1; simp [hj]
  · rw [if_neg h1, if_neg (fun e => h1 e.symm), List.getElem?_set]
    by_cases h2 : i = k
    · subst h2; simp [hi]
    · rw [if_neg h2, if_neg (fun e => h2 e.symm), ← List.getD_eq_getElem?_getD]
theorem swpP_perm (ps : List Nat) {i j : Nat} (hi : i < ps.length) (hj : j < ps.length) (hij : i ≠ j) : (swpP ps i j).Perm ps := by
  unfold swpP
  have e1 : ps.getD j 0 = ps[j] := by simp [List.getD, hj]
  have e2 : ps.getD i 0 = ps[i] := by simp [List.getD, hi]
  rw [e1, e2]
  exact List.set_set_perm hi hj
theorem SnkI.done {lt : Nat → Nat → Bool} (hs : Swo lt) {ps : List Nat} {i0 i c : Nat} (h : SnkI lt ps i0 i) (k : ChI lt ps i c i) (hc : ¬ (c ≤ 2 * i + 2 ∧ c < ps.length)) : HpF lt ps i0 := fun d h1 h2 h3 => by
  by_cases hd : (d - 1) / 2 = i
  · rw [hd]
    exact k.ok d (by omega) (by have := k.c1; omega) h2
  · exact h.ok d h1 h2 h3 hd
theorem SnkI.step {lt : Nat → Nat → Bool} (hs : Swo lt) {ps : List Nat} {i0 i c l : Nat} (h : SnkI lt ps i0 i) (k : ChI lt ps i c l) (hc : ¬ (c ≤ 2 * i + 2 ∧ c < ps.length)) (hl : l ≠ i) :
    i < l ∧ l < ps.length ∧ SnkI lt (swpP ps i l) i0 l := by
  have hc1 := k.c1
  have hi0 := h.le
  rcases k.l1 with h1 | ⟨l1, l2, l3, l4⟩
  · exact absurd h1 hl
  have hil : i < ps.length := by omega
  have hil2 : i ≠ l := fun e => hl e.symm
  have hlc : (l - 1) / 2 = i := by have := k.c2; omega
  have g := fun x => swpP_get ps hil l3 hil2 x
  refine ⟨by omega, l3, by omega, fun d h1 h2 h3 h4 => ?_, fun _ => ⟨by omega, fun d h1 h2 h3 => ?_⟩⟩
  · rw [swpP_length] at h2
    rw [g d, g ((d - 1) / 2), if_neg h4]
    by_cases d1 : d = l
    · subst d1
      rw [if_pos rfl, if_pos hlc]
      exact hs.asy l4
    · rw [if_neg d1]
      by_cases d2 : d = i
      · subst d2
        have hdd : (d - 1) / 2 ≠ d := by omega
        rw [if_pos rfl, if_neg hdd]
        have hne : d ≠ i0 := by omega
        exact (h.up hne).2 l (by omega) l3 hlc
      · rw [if_neg d2]
        by_cases d3 : (d - 1) / 2 = i
        · rw [if_pos d3]
          exact k.ok d (by omega) (by omega) h2
        · rw [if_neg d3]
          exact h.ok d h1 h2 h3 d3
  · rw [swpP_length] at h2
    have d1 : d ≠ l := by omega
    have d2 : d ≠ i := by omega
    rw [g d, if_neg d1, if_neg d2, g ((l - 1) / 2), hlc, if_neg hil2, if_pos rfl]
    have := h.ok d h1 h2 (by omega) (by omega)
    rw [h3] at this
    exact this
/-- In a heap the first comes not behind any other. -/
theorem HpF.min {lt : Nat → Nat → Bool} (hs : Swo lt) {ps : List Nat} (h : HpF lt ps 0) : ∀ i, i < ps.length → lt (ps.getD i 0) (ps.getD 0 0) = false := by
  intro i
  induction i using Nat.strongRecOn with
  | _ i ih =>
    intro hi
    by_cases h0 : i = 0
    · subst h0; exact hs.irr _
    · exact hs.neg _ _ _ (h i (by omega) hi (Nat.zero_le _)) (ih ((i - 1) / 2) (by omega) (by omega))
end Go.Proofs.YtgmfjninimebmaaGreatDoor
