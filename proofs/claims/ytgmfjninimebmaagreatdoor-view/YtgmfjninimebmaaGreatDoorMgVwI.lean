import Derived.Test.YtgmfjninimebmaaGreatDoorMgVwE
import Derived.LoopN
namespace Go.Proofs.YtgmfjninimebmaaGreatDoor
open Go.RowKit Go.Maps
set_option linter.unusedVariables false
set_option linter.unusedSimpArgs false

theorem vwE_bad {xs : List Fl} {q fu : Int} (h : vldB xs q fu = false) : vwE xs q fu = ([], 0) := by unfold vwE; rw [if_neg (by simp [h])]
theorem vwE_go {xs : List Fl} {q fu : Int} {m : Nat} (h : vldB xs q fu = true) (h1 : mkAt xs goB = some m) : vwE xs q fu = (rtL (dtA xs tabB), (m : Int)) := by unfold vwE; rw [if_pos h, h1]
theorem vwE_ok {xs : List Fl} {q fu : Int} {m : Nat} (h : vldB xs q fu = true) (h1 : mkAt xs goB = none) (h2 : mkAt xs okB = some m) : vwE xs q fu = (rtL (dtA xs tabB), (m : Int)) := by unfold vwE; rw [if_pos h, h1, h2]
theorem vwE_no {xs : List Fl} {q fu : Int} (h : vldB xs q fu = true) (h1 : mkAt xs goB = none) (h2 : mkAt xs okB = none) : vwE xs q fu = (newE (lsA xs).flatten, lastE (lsA xs).flatten) := by unfold vwE; rw [if_pos h, h1, h2]
theorem three_cellsV {w : World} {p : Nat} {t : TypeId} {x0 x1 x2 : Value} (h : w.heap[p]? = some (.cells #[x0, x1, x2] t (0, 0))) : w.cell? ⟨p, 0, none⟩ = some x0 ∧ w.cell? ⟨p, 1, none⟩ = some x1 ∧ w.cell? ⟨p, 2, none⟩ = some x2 := by
  simp [World.cell?, h]
theorem box_new2 (w : World) (x y : Obj) : (w.alloc x |>.alloc y).heap[w.heap.size + 1]? = some y := by
  have := World.heap_alloc_new (w.alloc x) y
  rw [World.size_alloc] at this
  exact this
/-- A box that was made and what stands below it. -/
theorem keepBox {W W' : World} {B b : Nat} {o : Obj} (h : Below B W W') (hb : b < B) (ho : W.heap[b]? = some o) : W'.heap[b]? = some o := (h.block b hb).trans ho
set_option maxRecDepth 100000 in
set_option maxHeartbeats 8000000 in
theorem implView_any (a : Option Addr) (cap : Nat) (xs : List Fl) (q fu : Int) (w : World) (hx : Lie w a xs) (hf : Fits xs) (hlen : xs.length ≤ 1048576) (hd : datas xs ≤ 1048576) (hst : Steps w) :
    Calls Tryz.prog 7 #[.agg #[.slice a xs.length cap, .int .i64 q, .int .i64 fu]] w fun e w' => ∃ a' c', e = .returned (.agg #[.slice a' (vwE xs q fu).1.length c', .int .i64 (vwE xs q fu).2]) ∧ ResE w' w.heap.size a' (vwE xs q fu).1 ∧ Below w.heap.size w w' := by
  have hb0 : Below w.heap.size w ((w.alloc (.cells #[.slice a xs.length cap, .int .i64 q, .int .i64 fu] 32)).alloc (.cells #[.slice none 0 0, .int .i64 0] 28)) := ((Below.refl _ _).alloc (Nat.le_refl _) _).alloc (by simp) _
  have hr0 := box_new2 w (.cells #[.slice a xs.length cap, .int .i64 q, .int .i64 fu] 32) (.cells #[.slice none 0 0, .int .i64 0] 28)
  have hf0 : ((w.alloc (.cells #[.slice a xs.length cap, .int .i64 q, .int .i64 fu] 32)).alloc (.cells #[.slice none 0 0, .int .i64 0] 28)).heap[w.heap.size]? = some (.cells #[.slice a xs.length cap, .int .i64 q, .int .i64 fu] 32 (0, 0)) := (Below.heap_alloc _ _ _ (by simp)).trans (World.heap_alloc_new _ _)
  have hs0 : ((w.alloc (.cells #[.slice a xs.length cap, .int .i64 q, .int .i64 fu] 32)).alloc (.cells #[.slice none 0 0, .int .i64 0] 28)).heap.size = w.heap.size + 2 := by simp
  cases hvd : vldB xs q fu with
  | false =>
    rw [vwE_bad hvd]
    have HO := hdV (openDir_bad a cap xs q fu _ (hx.below hb0) hf hlen hd hvd)
    go_enter Tryz.func7, Tryz.ntmps7
    go_wp2_with fail
    refine HO.out.mono ?_
    rintro r w1 ⟨rfl, hb1⟩
    have hr1 := keepBox hb1 (by omega) hr0
    obtain ⟨⟨r0, r1⟩, r2, r3⟩ := two_cellsV hr1
    have hbw := hdV (hb0.trans (hb1.mono hb0.size))
    clear hb1 hb0 hr0 hf0 hs0
    go_wp2_with fail
    refine bodyPost_ret (v := .agg #[.slice none 0 0, .int .i64 0]) (by simp [results, Tryz.results7, go_sem, r0, r1, r2, r3]) rfl ?_
    have h2 := (hbw.out.setCell (p := ⟨w.heap.size + 1, 0, none⟩) (by simp) (.slice none 0 0)).setCell (p := ⟨w.heap.size + 1, 1, none⟩) (by simp) (.int .i64 0)
    first | exact ⟨none, 0, rfl, .inl rfl, h2⟩ | exact ⟨none, ⟨0, rfl⟩, .inl rfl, h2⟩
  | true =>
    have HO := hdV (openDir_ok a cap xs q fu _ (hx.below hb0) hf hlen hd hvd)
    have hix0 : ∀ w : World, (Instr.index 56 (.agg #[.string ⟨#[114, 101, 112, 97, 105, 114, 46, 103, 111]⟩, .string ⟨#[114, 101, 112, 97, 105, 114, 46, 111, 107]⟩]) (.int .i64 0)).run Tryz.prog w = .ok (.string ⟨#[114, 101, 112, 97, 105, 114, 46, 103, 111]⟩) w := fun _ => by kernel_rfl
    have hix1 : ∀ w : World, (Instr.index 56 (.agg #[.string ⟨#[114, 101, 112, 97, 105, 114, 46, 103, 111]⟩, .string ⟨#[114, 101, 112, 97, 105, 114, 46, 111, 107]⟩]) (.int .i64 1)).run Tryz.prog w = .ok (.string ⟨#[114, 101, 112, 97, 105, 114, 46, 111, 107]⟩) w := fun _ => by kernel_rfl
    go_enter Tryz.func7, Tryz.ntmps7
    go_wp2_with fail
    refine HO.out.mono ?_
    rintro r w1 ⟨g, mb, rfl, hmb, hg, hne, hobj, hdir, hb1⟩
    have hr1 := keepBox hb1 (by omega) hr0
    have hf1 := keepBox hb1 (by omega) hf0
    have hbw1 := hb0.trans (hb1.mono hb0.size)
    have hsz1 : w.heap.size + 2 ≤ w1.heap.size := by have := hb1.size; omega
    have hglt := heap_lt hobj
    have hmlt := hdir.lt
    have HRM := hdV (fun (nm : ByteArray) (hn : nm.size ≤ maxLen) (w' : World) (hb : Below w1.heap.size w1 w') => readMark_any g mb xs.length q fu xs nm w' hn ((hb.block g hglt).trans hobj) (hdir.below hb hmlt) hne hd (hst.below (hbw1.trans (hb.mono hbw1.size))))
    have HM1 : Hid (∀ (w' : World), Below w1.heap.size w1 w' → Calls Tryz.prog 22 #[.pointer (some ⟨g, 0, none⟩), .string ⟨#[114, 101, 112, 97, 105, 114, 46, 103, 111]⟩] w' fun e w'' => ∃ a cap, e = .returned (.tuple #[.agg #[.slice a (rmE (mkAt xs goB) (rtL (dtA xs tabB))).length cap, .int .i64 (rmL (mkAt xs goB))], .bool (mkAt xs goB).isSome]) ∧ ResE w'' w'.heap.size a (rmE (mkAt xs goB) (rtL (dtA xs tabB))) ∧ Below w'.heap.size w' w'') := fun w' hb => HRM.out _ (by decide) w' hb
    have HM2 : Hid (∀ (w' : World), Below w1.heap.size w1 w' → Calls Tryz.prog 22 #[.pointer (some ⟨g, 0, none⟩), .string ⟨#[114, 101, 112, 97, 105, 114, 46, 111, 107]⟩] w' fun e w'' => ∃ a cap, e = .returned (.tuple #[.agg #[.slice a (rmE (mkAt xs okB) (rtL (dtA xs tabB))).length cap, .int .i64 (rmL (mkAt xs okB))], .bool (mkAt xs okB).isSome]) ∧ ResE w'' w'.heap.size a (rmE (mkAt xs okB) (rtL (dtA xs tabB))) ∧ Below w'.heap.size w' w'') := fun w' hb => HRM.out _ (by decide) w' hb
    have HSA := hdV (fun (w' : World) (hb : Below w1.heap.size w1 w') => salvageFiles_any a cap xs q fu w' (hx.below (hbw1.trans (hb.mono hbw1.size))) hlen hd (hst.below (hbw1.trans (hb.mono hbw1.size))))
    have HV1 := hdV (fun m h => vwE_go (xs := xs) (q := q) (fu := fu) (m := m) hvd h)
    have HV2 := hdV (fun m h h' => vwE_ok (xs := xs) (q := q) (fu := fu) (m := m) hvd h h')
    have HV3 := hdV (fun h h' => vwE_no (xs := xs) (q := q) (fu := fu) hvd h h')
    clear HRM hobj hdir hb1 hb0 hr0 hf0 hs0 HO hmb hg
    generalize rtL (dtA xs tabB) = ES at *
    generalize mkAt xs goB = o1 at *
    generalize mkAt xs okB = o2 at *
    go_wp2_with fail
    refine wp_loop_rounds 3 ?_
    rw [rounds_succ]
    go_wp2_with fail
    refine (HM1.out _ (Below.refl _ _)).mono ?_
    rintro e w2 ⟨a2, c2, rfl, hr2e, hb2⟩
    have HE2 := hdV hr2e
    cases o1 with
    | some m =>
      simp only [rmE, rmL, Option.isSome_some]
      have hr2 := keepBox hb2 (by omega) hr1
      have hb3 : Below w2.heap.size w2 (w2.alloc (.cells #[.slice a2 ES.length c2, .int .i64 (m : Int)] 28)) := (Below.refl _ _).alloc (Nat.le_refl _) _
      have hs2 := hb2.size
      have hr3 := keepBox hb3 (by omega) hr2
      obtain ⟨⟨r0, r1⟩, r2, r3⟩ := two_cellsV hr3
      have hbw := hdV (hbw1.trans ((hb2.trans (hb3.mono hs2)).mono hbw1.size))
      have HE3 := hdV (HE2.out.below hb3)
      clear hr2e hb2 hr2 hb3 hr3
      go_wp2_with fail
      refine bodyPost_ret (v := .agg #[.slice a2 ES.length c2, .int .i64 (m : Int)]) (by simp [results, Tryz.results7, go_sem, r0, r1, r2, r3]) rfl ?_
      have h1 := ((HE3.out.putV (b := w.heap.size + 1) (o := 0) (by omega) (.slice a2 ES.length c2)).putV (b := w.heap.size + 1) (o := 1) (by omega) (.int .i64 (m : Int))).down (show w.heap.size ≤ w1.heap.size by omega)
      have h2 := (hbw.out.setCell (p := ⟨w.heap.size + 1, 0, none⟩) (by simp) (.slice a2 ES.length c2)).setCell (p := ⟨w.heap.size + 1, 1, none⟩) (by simp) (.int .i64 (m : Int))
      rw [HV1.out m rfl]
      first | exact ⟨a2, c2, rfl, h1, h2⟩ | exact ⟨a2, ⟨c2, rfl⟩, h1, h2⟩
    | none =>
      simp only [rmE, rmL, Option.isSome_none]
      have hb3 : Below w2.heap.size w2 (w2.alloc (.cells #[.slice a2 ([] : List En).length c2, .int .i64 0] 28)) := (Below.refl _ _).alloc (Nat.le_refl _) _
      have hs2 := hb2.size
      have hb13 := hb2.trans (hb3.mono hs2)
      have hr3 := keepBox hb13 (by omega) hr1
      have hf3 := keepBox hb13 (by omega) hf1
      have hbw3 := hbw1.trans (hb13.mono hbw1.size)
      have hs3 := hb13.size
      simp only [List.length_nil] at hb3 hb13 hr3 hf3 hbw3 hs3
      clear HE2 hr2e hb2 hb3 HM1 HV1
      go_wp2_with fail
      rw [rounds_succ]
      go_wp2_with fail
      generalize w2.alloc (.cells #[.slice a2 0 c2, .int .i64 0] 28) = w3 at *
      refine (HM2.out _ hb13).mono ?_
      rintro e w4 ⟨a4, c4, rfl, hr4e, hb4⟩
      have HE4 := hdV hr4e
      have hs4 := hb4.size
      cases o2 with
      | some m =>
        simp only [rmE, rmL, Option.isSome_some]
        have hr4 := keepBox hb4 (by omega) hr3
        have hb5 : Below w4.heap.size w4 (w4.alloc (.cells #[.slice a4 ES.length c4, .int .i64 (m : Int)] 28)) := (Below.refl _ _).alloc (Nat.le_refl _) _
        have hr5 := keepBox hb5 (by omega) hr4
        obtain ⟨⟨r0, r1⟩, r2, r3⟩ := two_cellsV hr5
        have hbw := hdV (hbw3.trans ((hb4.trans (hb5.mono hs4)).mono hbw3.size))
        have HE5 := hdV (HE4.out.below hb5)
        clear hr4e hb4 hr4 hb5 hr5
        go_wp2_with fail
        refine bodyPost_ret (v := .agg #[.slice a4 ES.length c4, .int .i64 (m : Int)]) (by simp [results, Tryz.results7, go_sem, r0, r1, r2, r3]) rfl ?_
        have h1 := ((HE5.out.putV (b := w.heap.size + 1) (o := 0) (by omega) (.slice a4 ES.length c4)).putV (b := w.heap.size + 1) (o := 1) (by omega) (.int .i64 (m : Int))).down (show w.heap.size ≤ w3.heap.size by omega)
        have h2 := (hbw.out.setCell (p := ⟨w.heap.size + 1, 0, none⟩) (by simp) (.slice a4 ES.length c4)).setCell (p := ⟨w.heap.size + 1, 1, none⟩) (by simp) (.int .i64 (m : Int))
        rw [HV2.out m (by simp) (by simp)]
        first | exact ⟨a4, c4, rfl, h1, h2⟩ | exact ⟨a4, ⟨c4, rfl⟩, h1, h2⟩
      | none =>
        simp only [rmE, rmL, Option.isSome_none]
        have hb5 : Below w4.heap.size w4 (w4.alloc (.cells #[.slice a4 ([] : List En).length c4, .int .i64 0] 28)) := (Below.refl _ _).alloc (Nat.le_refl _) _
        have hb35 := hb4.trans (hb5.mono hs4)
        have hr5 := keepBox hb35 (by omega) hr3
        have hf5 := keepBox hb35 (by omega) hf3
        have hb15 := hb13.trans (hb35.mono hs3)
        have hbw5 := hbw3.trans (hb35.mono hbw3.size)
        have hs5 := hb35.size
        simp only [List.length_nil] at hb5 hb35 hr5 hf5 hb15 hbw5 hs5
        clear HE4 hr4e hb4 hb5 HM2 HV2 hb35
        have hfc := three_cellsV hf5
        obtain ⟨f0, f1, f2⟩ := hfc
        go_wp2_with fail
        rw [rounds_succ]
        go_wp2_with fail
        generalize w4.alloc (.cells #[.slice a4 0 c4, .int .i64 0] 28) = w5 at *
        refine (HSA.out _ hb15).mono ?_
        rintro e w6 ⟨a6, c6, rfl, hr6e, hb6⟩
        have hs6 := hb6.size
        have hr6 := keepBox hb6 (by omega) hr5
        obtain ⟨⟨r0, r1⟩, r2, r3⟩ := two_cellsV hr6
        have hbw := hdV (hbw5.trans (hb6.mono hbw5.size))
        have HE6 := hdV hr6e
        have HV := hdV (HV3.out (by simp) (by simp))
        clear hr6e hb6 hr6 HV3
        generalize newE (lsA xs).flatten = Z at *
        generalize lastE (lsA xs).flatten = LE at *
        go_wp2_with fail
        refine bodyPost_ret (v := .agg #[.slice a6 Z.length c6, .int .i64 LE]) (by simp [results, Tryz.results7, go_sem, r0, r1, r2, r3]) rfl ?_
        have h1 := ((HE6.out.putV (b := w.heap.size + 1) (o := 0) (by omega) (.slice a6 Z.length c6)).putV (b := w.heap.size + 1) (o := 1) (by omega) (.int .i64 LE)).down (show w.heap.size ≤ w5.heap.size by omega)
        have h2 := (hbw.out.setCell (p := ⟨w.heap.size + 1, 0, none⟩) (by simp) (.slice a6 Z.length c6)).setCell (p := ⟨w.heap.size + 1, 1, none⟩) (by simp) (.int .i64 LE)
        rw [HV.out]
        first | exact ⟨a6, c6, rfl, h1, h2⟩ | exact ⟨a6, ⟨c6, rfl⟩, h1, h2⟩
end Go.Proofs.YtgmfjninimebmaaGreatDoor
namespace Go.Proofs.YtgmfjninimebmaaGreatDoor
open Go.RowKit Go.Maps
set_option linter.unusedVariables false
set_option linter.unusedSimpArgs false

theorem ResS.grownL {W w1 : World} {B B' n : Nat} {v : Value} {ys : List Value} {a : Option Addr} {ps : List ByteArray} (h : ResS W B a ps) (hg : W.grownBy w1 v.ownBlock) (hrow : W.ownsRow B' 26 1 v n ys) : ResS w1 B a ps := by
  rcases h with h | ⟨g, rfl, hB, hr⟩
  · exact .inl h
  · refine .inr ⟨g, rfl, hB, hr.block (hg.block g hr.lt fun e => ?_)⟩
    obtain ⟨cs, hc, -⟩ := hr
    rcases hrow.2 with ⟨rfl, -⟩ | ⟨g', cap, cur, rfl, hg', hbk, -⟩
    · cases e
    · cases e
      rw [hc] at hbk
      simp at hbk
theorem szF_mem {L : List Fr} {f : Fr} (h : f ∈ L) : (rfB f).size ≤ szF L := by
  induction L with
  | nil => cases h
  | cons x r ih =>
    have hz : szF (x :: r) = (rfB x).size + szF r := by simp only [szF, List.map_cons, List.sum_cons]
    rw [hz]
    rcases List.mem_cons.1 h with rfl | h
    · omega
    · have := ih h
      omega
theorem sv_size {s p : ByteArray} {k : Int} (h : p ∈ svL s k) : p.size ≤ s.size := by
  unfold svL at h
  obtain ⟨f, hf, rfl⟩ := List.mem_map.1 h
  exact Nat.le_trans (szF_mem (List.mem_filter.1 hf).1) (frs_all s)
theorem take_fm (P : List ByteArray) (j : Nat) (h : j < P.length) : (P.take (j + 1)).filterMap dec = (P.take j).filterMap dec ++ (match dec (P.getD j ByteArray.empty) with
    | none => []
    | some es => [es]) := by
  rw [List.take_succ_eq_append_getElem h, List.filterMap_append, show P[j] = P.getD j ByteArray.empty by simp [List.getD, h]]
  congr 1
  cases hd : dec (P.getD j ByteArray.empty) with
  | none => rw [List.filterMap_cons_none hd]; rfl
  | some es => rw [List.filterMap_cons_some hd]; rfl
theorem RowS.cellAt {w : World} {a : Option Addr} {B : Nat} {ps : List ByteArray} (h : ResS w B a ps) {i : Nat} (hi : i < ps.length) : ∃ g, a = some ⟨g, 0, none⟩ ∧ w.cell? ⟨g, i, none⟩ = some (.string (ps.getD i ByteArray.empty)) := by
  rcases h with rfl | ⟨g, rfl, hB, hr⟩
  · simp at hi
  · exact ⟨g, rfl, hr.at hi⟩
/-- The lists of a file up to kind k. -/
def lsK2 (s : ByteArray) : Nat → List (List En)
  | 0 => []
  | 1 => lsK s 66
  | _ => lsF s
theorem owns_downV {w : World} {B B' n size : Nat} {e : TypeId} {v : Value} {xs : List Value} (h : w.ownsRow B e size v n xs) (hB : B' ≤ B) : w.ownsRow B' e size v n xs := by
  obtain ⟨h1, h2⟩ := h
  refine ⟨h1, ?_⟩
  rcases h2 with h2 | ⟨g, cap, cur, e, hg, r⟩
  · exact .inl h2
  · exact .inr ⟨g, cap, cur, e, Nat.le_trans hB hg, r⟩
set_option maxRecDepth 100000 in
set_option maxHeartbeats 8000000 in
theorem l6Lists_any (a : Option Addr) (cap : Nat) (xs : List Fl) (q fu : Int) (w : World) (hx : Lie w a xs) (hlen : xs.length ≤ 1048576) (hnm : ∀ i, i < xs.length → (xs.getD i fl0).nm.size ≤ 1048576) (hd : datas xs ≤ 1048576) :
    Calls Tryz.prog 18 #[.agg #[.slice a xs.length cap, .int .i64 q, .int .i64 fu]] w fun e w' => ∃ v L, e = .returned v ∧ L.map LV.xs = lsA xs ∧ OwnL w' w.heap.size v L ∧ Below w.heap.size w w' := by
  obtain ⟨i0, hi, hz0, hz1, hz2⟩ := info_parts lst_info
  have hb0 : Below w.heap.size w (w.alloc (.cells #[.slice a xs.length cap, .int .i64 q, .int .i64 fu] 32)) := (Below.refl _ _).alloc (Nat.le_refl _) _
  have hf0 : (w.alloc (.cells #[.slice a xs.length cap, .int .i64 q, .int .i64 fu] 32)).heap[w.heap.size]? = some (.cells #[.slice a xs.length cap, .int .i64 q, .int .i64 fu] 32 (0, 0)) := World.heap_alloc_new _ _
  have hs0 : (w.alloc (.cells #[.slice a xs.length cap, .int .i64 q, .int .i64 fu] 32)).heap.size = w.heap.size + 1 := by simp
  have HX0 := hdV (hx.below hb0)
  have HLA := hdV (fun i => lsA_take_le xs i)
  have HLT := hdV (lsA_take xs)
  have HNM := hdV hnm
  have HDF : Hid (∀ i, i < xs.length → (xs.getD i fl0).dt.size ≤ 1048576) := fun i hi => by
    have h1 := datas_snoc xs i hi
    have h2 := datas_take_le xs (i + 1)
    omega
  have HOw := hdV (fun (s : ByteArray) (hs : s.size ≤ 1048576) (w : World) => l6Own_any s w hs)
  have HDc := hdV (fun (s : ByteArray) (hs : s.size ≤ 1048576) (w : World) => specDec_any s w hs)
  have HSv := hdV (fun (s : ByteArray) (k : Int) (hs : s.size ≤ 1048576) (w : World) => specSalv_any s k w hs)
  clear hnm
  go_enter Tryz.func18, Tryz.ntmps18
  go_wp2_with fail
  generalize w.alloc (.cells #[.slice a xs.length cap, .int .i64 q, .int .i64 fu] 32) = W0 at *
  have HS0 := hdV hs0
  have hO0 : OwnL (W0.alloc (.cells #[] 26)) W0.heap.size (.slice (some ⟨w.heap.size + 1, 0, none⟩) 0 0) [] := by
    have h := OwnL.lit W0 W0.heap.size (Nat.le_refl _)
    have e : (⟨W0.heap.size, 0, none⟩ : Addr) = ⟨w.heap.size + 1, 0, none⟩ := by rw [hs0]
    rw [e] at h
    exact h
  have hB1 : Below W0.heap.size W0 (W0.alloc (.cells #[] 26)) := (Below.refl _ _).alloc (Nat.le_refl _) _
  clear hs0
  go_loopw [3, 4] (fun v3 v4 W => ∃ (i : Nat) (L : List LV), v4 = .int .i64 (i : Int) ∧ i ≤ xs.length ∧ Hid (OwnL W W0.heap.size v3 L) ∧ Hid (L.map LV.xs = lsA (xs.take i)) ∧ Hid (Below W0.heap.size W0 W)) (fun _ v4 _ => xs.length - (intOf v4).toNat)
  case atStart => exact ⟨0, [], rfl, Nat.zero_le _, hO0, rfl, hB1⟩
  case round =>
    clear hO0 hB1
    obtain ⟨i, L, rfl, hi1, HO, HL, HB⟩ := hrel
    obtain ⟨k0, k1, k2⟩ := three_cellsV (keepBox HB.out (by have := HS0.out; omega) hf0)
    by_cases hA : i < xs.length
    · have hA' : (i : Int) < (xs.length : Int) := by omega
      obtain ⟨b, off, hab, hbl, c0, c1, c2⟩ := (HX0.out.below HB.out).at hA
      subst hab
      have hcnt := HLA.out (i + 1)
      have HT := hdV (HLT.out i hA)
      rw [HT.out, cntL_app] at hcnt
      have hc1 : (lsA (xs.take i)).length ≤ cntL (lsA (xs.take i)) := Nat.le_add_right _ _
      have hdt := HDF.out i hA
      have hnm := HNM.out i hA
      have hsz := HB.out.size
      have HXi : Hid (∀ W, Below W0.heap.size W0 W → W.cell? ⟨b, off + i * 3 + 1, none⟩ = some (.string (xs.getD i fl0).dt)) := fun W hb => by
        obtain ⟨b', off', e, -, -, h, -⟩ := (HX0.out.below hb).at hA
        cases e
        exact h
      generalize xs.getD i fl0 = f at *
      have HC := hdV (HOw.out f.nm hnm wr)
      generalize hown : ownN f.nm = own at *
      go_wp2_with fail
      refine HC.out.mono ?_
      rintro e w1 ⟨rfl, hb1⟩
      have HO1 := hdV (HO.out.below hb1)
      have HB1 := hdV (HB.out.trans (hb1.mono HB.out.size))
      clear hb1 HC HO HB c0 c1 c2 k0 k1 k2
      cases own with
      | true =>
        have HTt : Hid (lsA (xs.take (i + 1)) = lsA (xs.take i)) := by show _ = _; rw [HT.out, if_pos rfl, List.append_nil]
        go_wp2_with fail
        refine ⟨⟨i + 1, L, by go_num, by omega, HO1, ?_, HB1⟩, by simp only [intOf]; omega⟩
        show _ = _
        rw [HTt.out]
        exact HL.out
      | false =>
        have HTt : Hid (lsA (xs.take (i + 1)) = lsA (xs.take i) ++ lsF f.dt) := by show _ = _; rw [HT.out, if_neg (by simp)]
        rw [if_neg (by simp)] at hcnt
        generalize lsA (xs.take i) = P0 at *
        go_wp2_with fail
        go_loopw [3, 5] (fun v3 v5 W => ∃ (k : Nat) (L : List LV), v5 = .int .i64 (k : Int) ∧ k ≤ 2 ∧ Hid (OwnL W W0.heap.size v3 L) ∧ Hid (L.map LV.xs = P0 ++ lsK2 f.dt k) ∧ Hid (Below W0.heap.size W0 W)) (fun _ v5 _ => 2 - (intOf v5).toNat)
        case atStart => exact ⟨0, L, rfl, by omega, HO1, by show _ = _; rw [HL.out]; simp [lsK2], HB1⟩
        case round =>
          clear HO1 HL HB1
          obtain ⟨k, L, rfl, hk2, HO, HL, HB⟩ := hrel
          obtain ⟨k0, k1, k2⟩ := three_cellsV (keepBox HB.out (by have := HS0.out; omega) hf0)
          have d1 := HXi.out wr HB.out
          have hsz := HB.out.size
          have hcF : cntL (lsF f.dt) = cntL (lsK f.dt 66) + cntL (lsK f.dt 87) := cntL_app _ _
          have hc66 : (lsK f.dt 66).length ≤ cntL (lsK f.dt 66) := Nat.le_add_right _ _
          have hc87 : (lsK f.dt 87).length ≤ cntL (lsK f.dt 87) := Nat.le_add_right _ _
          obtain rfl | rfl | rfl : k = 0 ∨ k = 1 ∨ k = 2 := by omega
          · have HL0 : Hid (L.map LV.xs = P0) := by show _ = _; rw [HL.out]; simp [lsK2]
            clear HL
            go_wp2_with fail
            have HS1 := hdV (HSv.out f.dt 66 hdt wr)
            refine HS1.out.mono ?_
            rintro e w2 ⟨a2, c2, rfl, hr2, hb2⟩
            have HO2 := hdV (HO.out.below hb2)
            have HB2 := hdV (HB.out.trans (hb2.mono hsz))
            have HP2 := hdV (show ResS w2 0 a2 (svL f.dt 66) from by
              rcases hr2 with h | ⟨g, h1, -, h2⟩
              · exact .inl h
              · exact .inr ⟨g, h1, Nat.zero_le _, h2⟩)
            have HPs : Hid (∀ j, j < (svL f.dt 66).length → ((svL f.dt 66).getD j ByteArray.empty).size ≤ 1048576) := fun j hj => by
              have hm : (svL f.dt 66).getD j ByteArray.empty ∈ svL f.dt 66 := by simp [List.getD, hj]
              exact Nat.le_trans (sv_size hm) hdt
            have HLk : Hid ((svL f.dt 66).filterMap dec = lsK f.dt 66) := rfl
            have hpl : ((svL f.dt 66).filterMap dec).length = (lsK f.dt 66).length := rfl
            have HFm : Hid (∀ j, j < (svL f.dt 66).length → ((svL f.dt 66).take (j + 1)).filterMap dec = ((svL f.dt 66).take j).filterMap dec ++ (match dec ((svL f.dt 66).getD j ByteArray.empty) with | none => [] | some es => [es])) := fun j hj => take_fm _ j hj
            have hpl2 : (svL f.dt 66).length ≤ 1048576 := Nat.le_trans (sv_len _ _) hdt
            clear hr2 hb2 HS1 HO HB k0 k1 k2 d1
            generalize svL f.dt 66 = P at *
            go_wp2_with fail
            go_loopw [3, 8] (fun v3 v8 W => ∃ (j : Nat) (L : List LV), v8 = .int .i64 (j : Int) ∧ j ≤ P.length ∧ Hid (OwnL W W0.heap.size v3 L) ∧ Hid (L.map LV.xs = P0 ++ (P.take j).filterMap dec) ∧ Hid (ResS W 0 a2 P) ∧ Hid (Below W0.heap.size W0 W)) (fun _ v8 _ => P.length - (intOf v8).toNat)
            case atStart => exact ⟨0, L, rfl, Nat.zero_le _, HO2, by show _ = _; rw [HL0.out]; simp, HP2, HB2⟩
            case round =>
              clear HO2 HP2 HB2 HL0
              obtain ⟨j, L, rfl, hj1, HO, HL, HP, HB⟩ := hrel
              have hsz := HB.out.size
              by_cases hJ : j < P.length
              · have hJ' : (j : Int) < (P.length : Int) := by omega
                obtain ⟨g2, hg2, p0⟩ := RowS.cellAt HP.out hJ
                subst hg2
                have HFj := hdV (HFm.out j hJ)
                have hps := HPs.out j hJ
                have hLn : L.length ≤ 4000000 := by
                  have h1 := congrArg List.length HL.out
                  have h2 : ((P.take j).filterMap dec).length ≤ P.length := Nat.le_trans (List.length_filterMap_le _ _) (by rw [List.length_take]; omega)
                  simp only [List.length_map, List.length_append] at h1
                  omega
                generalize P.getD j ByteArray.empty = p at *
                have HD := hdV (HDc.out p hps wr)
                cases hdp : dec p with
                | none =>
                  have HFn : Hid ((P.take (j + 1)).filterMap dec = (P.take j).filterMap dec) := by show _ = _; rw [HFj.out, hdp]; simp
                  rw [hdp] at HD
                  clear HFj hdp
                  go_wp2_with fail
                  refine HD.out.mono ?_
                  rintro e w3 ⟨a3, c3, rfl, -, hb3⟩
                  have HO3 := hdV (HO.out.below hb3)
                  have HP3 := hdV (HP.out.below hb3)
                  have HB3 := hdV (HB.out.trans (hb3.mono hsz))
                  clear hb3 HD HO HP HB p0
                  go_wp2_with fail
                  refine ⟨⟨j + 1, L, by go_num, by omega, HO3, ?_, HP3, HB3⟩, by simp only [intOf]; omega⟩
                  show _ = _
                  rw [HFn.out]
                  exact HL.out
                | some es =>
                  have hdL : decL p = es := by unfold decL; rw [hdp]; rfl
                  have HFn : Hid ((P.take (j + 1)).filterMap dec = (P.take j).filterMap dec ++ [es]) := by show _ = _; rw [HFj.out, hdp]
                  rw [hdp, hdL] at HD
                  clear HFj hdp hdL
                  go_wp2_with fail
                  refine HD.out.mono ?_
                  rintro e w3 ⟨a3, c3, rfl, hr3, hb3⟩
                  have HR3 := hdV hr3
                  have HO3 := hdV (HO.out.below hb3)
                  have HP3 := hdV (HP.out.below hb3)
                  have HB3 := hdV (HB.out.trans (hb3.mono hsz))
                  have hs3 := HB3.out.size
                  have hs3w := hb3.size
                  clear hr3 hb3 HD HO HP HB p0
                  have hbA : Below w3.heap.size w3 (w3.alloc (.cells #[.slice a3 es.length c3] 26)) := (Below.refl _ _).alloc (Nat.le_refl _) _
                  have HOA := hdV (HO3.out.below hbA)
                  have HPA := hdV (HP3.out.below hbA)
                  have HRA := hdV ((HR3.out.below hbA).down (show W0.heap.size ≤ wr.heap.size from hsz))
                  have HBA := hdV (HB3.out.trans (hbA.mono hs3))
                  have HCA := hdV (cell_first1 w3 (.slice a3 es.length c3) 26)
                  have hsA := HBA.out.size
                  clear hbA HO3 HP3 HR3 HB3
                  go_wp2_with (at_builtin; refine wpList_append_own _ rfl _ _ 47 rfl W0.heap.size 26 i0 _ 1 24 Tryz.underlying47 hi hz0 hz1 hz2 rfl (by decide) _ _ _ rfl HOA.out.row ⟨w3.heap.size, 0, none⟩ 1 1 [.slice a3 es.length c3] rfl rfl HCA.out (fun x hx => by simp at hx; subst hx; rfl) (by unfold maxLen; omega) (by omega) hsA ?_; intro v' w9 hown4 hgrow hnil; have HO9 := hdV (OwnL.app (l := LV.mk a3 c3 es) HOA.out HRA.out hgrow hown4); have HP9 := hdV (HPA.out.grownL hgrow HOA.out.row); have HB9 := hdV (HBA.out.grown hgrow hsA (owns_base HOA.out.row)); clear hown4 hgrow hnil)
                  refine ⟨⟨j + 1, L ++ [LV.mk a3 c3 es], by go_num, by omega, HO9, ?_, HP9, HB9⟩, by simp only [intOf]; omega⟩
                  show _ = _
                  rw [HFn.out, List.map_append, HL.out, List.append_assoc]
                  rfl
              · have hJ' : ¬ (j : Int) < (P.length : Int) := by omega
                have hPj : P.take j = P := List.take_of_length_le (by omega)
                rw [hPj, HLk.out] at HL
                clear HP
                go_wp2_with fail
                refine ⟨⟨1, L, by go_num, by omega, HO, ?_, HB⟩, by simp only [intOf]; omega⟩
                show _ = _
                rw [HL.out]
                rfl
          · have HL0 : Hid (L.map LV.xs = P0 ++ lsK f.dt 66) := HL.out
            clear HL
            go_wp2_with fail
            have HS1 := hdV (HSv.out f.dt 87 hdt wr)
            refine HS1.out.mono ?_
            rintro e w2 ⟨a2, c2, rfl, hr2, hb2⟩
            have HO2 := hdV (HO.out.below hb2)
            have HB2 := hdV (HB.out.trans (hb2.mono hsz))
            have HP2 := hdV (show ResS w2 0 a2 (svL f.dt 87) from by
              rcases hr2 with h | ⟨g, h1, -, h2⟩
              · exact .inl h
              · exact .inr ⟨g, h1, Nat.zero_le _, h2⟩)
            have HPs : Hid (∀ j, j < (svL f.dt 87).length → ((svL f.dt 87).getD j ByteArray.empty).size ≤ 1048576) := fun j hj => by
              have hm : (svL f.dt 87).getD j ByteArray.empty ∈ svL f.dt 87 := by simp [List.getD, hj]
              exact Nat.le_trans (sv_size hm) hdt
            have HLk : Hid ((svL f.dt 87).filterMap dec = lsK f.dt 87) := rfl
            have hpl : ((svL f.dt 87).filterMap dec).length = (lsK f.dt 87).length := rfl
            have HFm : Hid (∀ j, j < (svL f.dt 87).length → ((svL f.dt 87).take (j + 1)).filterMap dec = ((svL f.dt 87).take j).filterMap dec ++ (match dec ((svL f.dt 87).getD j ByteArray.empty) with | none => [] | some es => [es])) := fun j hj => take_fm _ j hj
            have hpl2 : (svL f.dt 87).length ≤ 1048576 := Nat.le_trans (sv_len _ _) hdt
            clear hr2 hb2 HS1 HO HB k0 k1 k2 d1
            generalize svL f.dt 87 = P at *
            go_wp2_with fail
            go_loopw [3, 8] (fun v3 v8 W => ∃ (j : Nat) (L : List LV), v8 = .int .i64 (j : Int) ∧ j ≤ P.length ∧ Hid (OwnL W W0.heap.size v3 L) ∧ Hid (L.map LV.xs = (P0 ++ lsK f.dt 66) ++ (P.take j).filterMap dec) ∧ Hid (ResS W 0 a2 P) ∧ Hid (Below W0.heap.size W0 W)) (fun _ v8 _ => P.length - (intOf v8).toNat)
            case atStart => exact ⟨0, L, rfl, Nat.zero_le _, HO2, by show _ = _; rw [HL0.out]; simp, HP2, HB2⟩
            case round =>
              clear HO2 HP2 HB2 HL0
              obtain ⟨j, L, rfl, hj1, HO, HL, HP, HB⟩ := hrel
              have hsz := HB.out.size
              by_cases hJ : j < P.length
              · have hJ' : (j : Int) < (P.length : Int) := by omega
                obtain ⟨g2, hg2, p0⟩ := RowS.cellAt HP.out hJ
                subst hg2
                have HFj := hdV (HFm.out j hJ)
                have hps := HPs.out j hJ
                have hLn : L.length ≤ 4000000 := by
                  have h1 := congrArg List.length HL.out
                  have h2 : ((P.take j).filterMap dec).length ≤ P.length := Nat.le_trans (List.length_filterMap_le _ _) (by rw [List.length_take]; omega)
                  simp only [List.length_map, List.length_append] at h1
                  omega
                generalize P.getD j ByteArray.empty = p at *
                have HD := hdV (HDc.out p hps wr)
                cases hdp : dec p with
                | none =>
                  have HFn : Hid ((P.take (j + 1)).filterMap dec = (P.take j).filterMap dec) := by show _ = _; rw [HFj.out, hdp]; simp
                  rw [hdp] at HD
                  clear HFj hdp
                  go_wp2_with fail
                  refine HD.out.mono ?_
                  rintro e w3 ⟨a3, c3, rfl, -, hb3⟩
                  have HO3 := hdV (HO.out.below hb3)
                  have HP3 := hdV (HP.out.below hb3)
                  have HB3 := hdV (HB.out.trans (hb3.mono hsz))
                  clear hb3 HD HO HP HB p0
                  go_wp2_with fail
                  refine ⟨⟨j + 1, L, by go_num, by omega, HO3, ?_, HP3, HB3⟩, by simp only [intOf]; omega⟩
                  show _ = _
                  rw [HFn.out]
                  exact HL.out
                | some es =>
                  have hdL : decL p = es := by unfold decL; rw [hdp]; rfl
                  have HFn : Hid ((P.take (j + 1)).filterMap dec = (P.take j).filterMap dec ++ [es]) := by show _ = _; rw [HFj.out, hdp]
                  rw [hdp, hdL] at HD
                  clear HFj hdp hdL
                  go_wp2_with fail
                  refine HD.out.mono ?_
                  rintro e w3 ⟨a3, c3, rfl, hr3, hb3⟩
                  have HR3 := hdV hr3
                  have HO3 := hdV (HO.out.below hb3)
                  have HP3 := hdV (HP.out.below hb3)
                  have HB3 := hdV (HB.out.trans (hb3.mono hsz))
                  have hs3 := HB3.out.size
                  have hs3w := hb3.size
                  clear hr3 hb3 HD HO HP HB p0
                  have hbA : Below w3.heap.size w3 (w3.alloc (.cells #[.slice a3 es.length c3] 26)) := (Below.refl _ _).alloc (Nat.le_refl _) _
                  have HOA := hdV (HO3.out.below hbA)
                  have HPA := hdV (HP3.out.below hbA)
                  have HRA := hdV ((HR3.out.below hbA).down (show W0.heap.size ≤ wr.heap.size from hsz))
                  have HBA := hdV (HB3.out.trans (hbA.mono hs3))
                  have HCA := hdV (cell_first1 w3 (.slice a3 es.length c3) 26)
                  have hsA := HBA.out.size
                  clear hbA HO3 HP3 HR3 HB3
                  go_wp2_with (at_builtin; refine wpList_append_own _ rfl _ _ 47 rfl W0.heap.size 26 i0 _ 1 24 Tryz.underlying47 hi hz0 hz1 hz2 rfl (by decide) _ _ _ rfl HOA.out.row ⟨w3.heap.size, 0, none⟩ 1 1 [.slice a3 es.length c3] rfl rfl HCA.out (fun x hx => by simp at hx; subst hx; rfl) (by unfold maxLen; omega) (by omega) hsA ?_; intro v' w9 hown4 hgrow hnil; have HO9 := hdV (OwnL.app (l := LV.mk a3 c3 es) HOA.out HRA.out hgrow hown4); have HP9 := hdV (HPA.out.grownL hgrow HOA.out.row); have HB9 := hdV (HBA.out.grown hgrow hsA (owns_base HOA.out.row)); clear hown4 hgrow hnil)
                  refine ⟨⟨j + 1, L ++ [LV.mk a3 c3 es], by go_num, by omega, HO9, ?_, HP9, HB9⟩, by simp only [intOf]; omega⟩
                  show _ = _
                  rw [HFn.out, List.map_append, HL.out, List.append_assoc]
                  rfl
              · have hJ' : ¬ (j : Int) < (P.length : Int) := by omega
                have hPj : P.take j = P := List.take_of_length_le (by omega)
                rw [hPj, HLk.out] at HL
                clear HP
                go_wp2_with fail
                refine ⟨⟨2, L, by go_num, by omega, HO, ?_, HB⟩, by simp only [intOf]; omega⟩
                show _ = _
                rw [HL.out]
                rw [List.append_assoc]; rfl
          · have HL0 : Hid (L.map LV.xs = P0 ++ lsF f.dt) := HL.out
            clear HL
            go_wp2_with fail
            refine ⟨⟨i + 1, L, by go_num, by omega, HO, ?_, HB⟩, by simp only [intOf]; omega⟩
            show _ = _
            rw [HTt.out]
            exact HL0.out
    · have hA' : ¬ (i : Int) < (xs.length : Int) := by omega
      have hit : xs.take i = xs := List.take_of_length_le (by omega)
      rw [hit] at HL
      have hLs := HL.out
      obtain ⟨a3, c3, hv3, -⟩ := HO.out.lie
      subst hv3
      have HBw := hdV (hb0.trans (HB.out.mono hb0.size))
      have hss := HS0.out
      go_wp2_with fail
      go_ret
      have hOw : OwnL wr w.heap.size (.slice a3 L.length c3) L := ⟨owns_downV HO.out.row (by omega), fun l hl => (HO.out.all l hl).down (by omega)⟩
      first | exact ⟨_, L, rfl, hLs, hOw, HBw.out⟩ | exact ⟨_, rfl, L, hLs, hOw, HBw.out⟩ | exact ⟨_, rfl, ⟨L, hLs, hOw⟩, HBw.out⟩
end Go.Proofs.YtgmfjninimebmaaGreatDoor
