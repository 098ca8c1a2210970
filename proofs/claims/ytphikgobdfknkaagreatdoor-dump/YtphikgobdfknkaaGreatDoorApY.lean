import Derived.Test.YtphikgobdfknkaaGreatDoorApS
import Derived.Deep.RegionHeldLaw
import Derived.Deep.RegionLaw
import Derived.Maps.OwnIn
namespace Go.Proofs.YtphikgobdfknkaaGreatDoor
open Go.RowKit Go.Maps
set_option linter.unusedVariables false
set_option linter.unusedSimpArgs false

theorem run_makeMap_hint (n : Int) (w : World) : (Instr.makeMap 153 (some (.int .i64 n))).run Tryz.prog w = .ok (.map (some w.heap.size)) (w.alloc (.map #[] 0)) := by
  simp [Instr.makeMap, run_underlying Tryz.underlying153, asInt, asIntOf, Result.andThen]
abbrev wfI (x : Int) : Prop := (Lit.int .i64 x).wf = true
theorem wfN (k : Nat) (h : k ≤ 1048576) : wfI (k : Int) := by
  unfold wfI
  have h1 : IntKind.min .i64 ≤ (k : Int) := by have : IntKind.min .i64 = -9223372036854775808 := by decide
                                               omega
  have h2 : (k : Int) ≤ IntKind.max .i64 := by have : IntKind.max .i64 = 9223372036854775807 := by decide
                                               omega
  show (decide (IntKind.min .i64 ≤ (k : Int)) && decide ((k : Int) ≤ IntKind.max .i64)) = true
  rw [decide_eq_true h1, decide_eq_true h2]
  rfl
theorem wfG : wfI (-1) := by decide
def wiL (ts : List Tr) (ks : List Int) : List Tr := if delsOk ts ks = true then leftT ts ks else []

theorem ownsT_lit (w : World) (B : Nat) (hB : B ≤ w.heap.size) : (w.alloc (.cells #[] 45)).ownsRow B 45 4 (.slice (some ⟨w.heap.size, 0, none⟩) 0 0) 0 (cellsT []) :=
  ⟨rfl, .inr ⟨w.heap.size, 0, #[], rfl, hB, World.heap_alloc_new _ _, Nat.le_refl _, Nat.zero_le _, rfl, rfl⟩⟩
theorem cell_new4 (w : World) (o : Obj) (x0 x1 x2 x3 : Value) (t : TypeId) : ∀ j u, [x0, x1, x2, x3][j]? = some u → ((w.alloc o).alloc (.cells #[x0, x1, x2, x3] t)).cell? ((⟨w.heap.size + 1, 0, none⟩ : Addr).add j) = some u := by
  intro j u hj
  have h := cell_first4 (w.alloc o) x0 x1 x2 x3 t j u hj
  rwa [show (w.alloc o).heap.size = w.heap.size + 1 by simp] at h
end Go.Proofs.YtphikgobdfknkaaGreatDoor
namespace Go.Proofs.YtphikgobdfknkaaGreatDoor
open Go.RowKit Go.Maps
set_option linter.unusedVariables false
set_option linter.unusedSimpArgs false

/-- The places of a catalog: the numbers of qs, each with its place. -/
def CIs {H : Type} (D : DataW H) (qs : List Tr) : Prop :=
  (∀ x, has D (.int .i64 x) = (qs.map Tr.nu).contains x) ∧ ∀ i, i < qs.length → D.atKey (.int .i64 (qs.getD i tr0).nu) (.lit (.int .i64 0)) = .lit (.int .i64 (i : Int))
theorem CIs.add {H : Type} {D : DataW H} {qs : List Tr} (h : CIs D qs) (hD : IsMap D) (t : Tr) (ht : (qs.map Tr.nu).contains t.nu = false) : CIs (D.put (.int .i64 t.nu) (.lit (.int .i64 (qs.length : Int)))) (qs ++ [t]) := by
  refine ⟨fun y => ?_, fun i hi => ?_⟩
  · rw [List.map_append, List.contains_append]
    by_cases e : y = t.nu
    · subst e
      rw [has_put_same hD (keyLitI _)]
      simp
    · rw [has_put_other (litI_ne e), h.1 y]
      have h0 : ([t].map Tr.nu).contains y = false := by simp [e]
      rw [h0, Bool.or_false]
  · rw [List.length_append] at hi
    by_cases e : i < qs.length
    · have hg : (qs ++ [t]).getD i tr0 = qs.getD i tr0 := by simp [List.getD, List.getElem?_append, e]
      have hm : qs.getD i tr0 ∈ qs := by rw [show qs.getD i tr0 = qs[i] by simp [List.getD, e]]; exact List.getElem_mem e
      have hne : (qs.getD i tr0).nu ≠ t.nu := fun h' => by
        have : (qs.map Tr.nu).contains t.nu = true := by rw [← h']; simp; exact ⟨_, hm, rfl⟩
        rw [ht] at this
        cases this
      rw [hg, atKey_put_other (litI_ne hne)]
      exact h.2 i e
    · obtain rfl : i = qs.length := by simp at hi; omega
      have hg : (qs ++ [t]).getD qs.length tr0 = t := by simp [List.getD]
      rw [hg]
      exact atKey_put_same hD (keyLitI _) _ _
/-- A catalog: its struct in block g, its map in block b, its row at B and above. -/
def Cat (w : World) (B g b N M : Nat) (qs : List Tr) : Prop :=
  ∃ (tv : Value) (D : DataW Unit), w.heap[g]? = some (.cells #[tv, .map (some b)] 155 (0, 0)) ∧ w.ownsMap Tryz.prog 3 (plainElem Tryz.prog 3) b qs.length D ∧ CIs D qs ∧ w.ownsRow B 45 4 tv qs.length (cellsT qs) ∧ (∀ k, tv.ownBlock = some k → k < N ∨ M ≤ k)
/-- The blocks from N on and below M stay. -/
def Kept (N M : Nat) (w w' : World) : Prop := ∀ i, N ≤ i → i < M → w'.heap[i]? = w.heap[i]?
theorem Kept.refl (N M : Nat) (w : World) : Kept N M w w := fun _ _ _ => rfl
theorem Kept.trans {N M : Nat} {a b c : World} (h : Kept N M a b) (k : Kept N M b c) : Kept N M a c := fun i h1 h2 => (k i h1 h2).trans (h i h1 h2)
theorem Kept.of {N M : Nat} {w w' : World} (h : Below w.heap.size w w') (hM : M ≤ w.heap.size) : Kept N M w w' := fun i _ h2 => h.block i (by omega)
theorem nil_owns (w : World) (B : Nat) : w.ownsRow B 45 4 (.slice none 0 0) 0 (cellsT []) := ⟨rfl, .inl ⟨rfl, rfl⟩⟩
set_option maxRecDepth 100000 in
theorem newCatalog_any (w : World) (N M : Nat) :
    Calls Tryz.prog 62 #[] w fun e w' => e = .returned (.pointer (some ⟨w.heap.size + 1, 0, none⟩)) ∧ Cat w' (w.heap.size + 2) (w.heap.size + 1) w.heap.size N M [] ∧ Below w.heap.size w w' ∧ w'.heap.size = w.heap.size + 2 := by
  have hmm := @run_makeMap Tryz.prog
  have hM := hd (World.ownsMap_made (H := Unit) w Tryz.prog 3 (plainElem Tryz.prog 3))
  go_enter Tryz.func62, Tryz.ntmps62
  go_wp2_with fail
  go_ret
  refine ⟨by simp, ⟨.slice none 0 0, .map [], ?_, hM.out.alloc _, ⟨fun x => rfl, fun i hi => absurd hi (Nat.not_lt_zero _)⟩, nil_owns _ _, fun k h => by cases h⟩, ((Below.refl _ _).alloc (Nat.le_refl _) _).alloc (by simp) _, by simp⟩
  have h := World.heap_alloc_new (w.alloc (.map #[] 0)) (.cells #[.slice none 0 0, .map (some w.heap.size)] 155)
  rwa [show (w.alloc (.map #[] 0)).heap.size = w.heap.size + 1 by simp] at h
end Go.Proofs.YtphikgobdfknkaaGreatDoor
namespace Go.Proofs.YtphikgobdfknkaaGreatDoor
open Go.RowKit Go.Maps
set_option linter.unusedVariables false
set_option linter.unusedSimpArgs false

/-- Whether a reference may come to those that are there. -/
def okPut (qs : List Tr) (t : Tr) : Bool := !(qs.map Tr.nu).contains t.nu && !qs.any (fun q => collT t q)
theorem okPut_bad {qs : List Tr} {t : Tr} {j : Nat} (hj : j < qs.length) (h : collT t (qs.getD j tr0) = true) : okPut qs t = false := by
  have : qs.any (fun q => collT t q) = true := List.any_eq_true.2 ⟨qs.getD j tr0, by rw [show qs.getD j tr0 = qs[j] by simp [List.getD, hj]]; exact List.getElem_mem hj, h⟩
  simp [okPut, this]
theorem okPut_yes {qs : List Tr} {t : Tr} (h1 : (qs.map Tr.nu).contains t.nu = false) (h : ∀ j, j < qs.length → collT t (qs.getD j tr0) = false) : okPut qs t = true := by
  have h2 : qs.any (fun q => collT t q) = false := by
    cases h' : qs.any (fun q => collT t q) with
    | false => rfl
    | true =>
      obtain ⟨q, hq, hc⟩ := List.any_eq_true.1 h'
      obtain ⟨j, hj, rfl⟩ := List.mem_iff_getElem.1 hq
      have := h j hj
      rw [show qs.getD j tr0 = qs[j] by simp [List.getD, hj], hc] at this
      cases this
  unfold okPut
  rw [h1, h2]
  rfl

/-- What neither is the catalog's struct nor its map nor a row of references stays. -/
def KeepX (g b : Nat) (w w' : World) : Prop := ∀ i o, w.heap[i]? = some o → i ≠ g → i ≠ b → (∀ cs fz, o ≠ .cells cs 45 fz) → w'.heap[i]? = some o
theorem KeepX.of_below {g b : Nat} {w w' : World} (h : Below w.heap.size w w') : KeepX g b w w' := fun i o ho _ _ _ => (h.block i (heap_lt ho)).trans ho
theorem KeepX.trans {g b : Nat} {w w' w'' : World} (h : KeepX g b w w') (h' : KeepX g b w' w'') : KeepX g b w w'' := fun i o ho h1 h2 h3 => h' i o (h i o ho h1 h2 h3) h1 h2 h3
theorem row_ref {w : World} {B n : Nat} {v : Value} {xs : List Value} (h : w.ownsRow B 45 4 v n xs) {i : Nat} (hi : v.ownBlock = some i) : ∃ cs, w.heap[i]? = some (.cells cs 45 (0, 0)) := by
  rcases h.2 with ⟨rfl, -⟩ | ⟨g', cap, cur, rfl, -, hbk, -⟩
  · cases hi
  · injection hi with hi
    subst hi
    exact ⟨_, hbk⟩
theorem ownsRow_set {w : World} {B n size p o : Nat} {e : TypeId} {v u : Value} {xs : List Value} (h : w.ownsRow B e size v n xs) (hp : p < B) : (w.setCell ⟨p, o, none⟩ u).ownsRow B e size v n xs :=
  h.kept (row := some p) ⟨rfl, rfl, rfl, by simp [World.setCell], fun i _ hne => Below.heap_setCell _ _ _ _ (fun e' => hne (by rw [e']))⟩ (.inr (fun e' => by have := owns_base h p e'; omega))
theorem step_append_own_at {P : Program} {ops : Array Oper} {o : Oper} {a : Act} {w : World} {K : Act → World → Prop} {Q : Exit → Act → World → Prop} {E : Prop}
    (hg : o.guard = none) (s x : Operand) (t : TypeId) (ho : o.op = Op.call { callee := Callee.builtin Builtin.append, args := #[s, x], argTypes := #[t, t] })
    (base : Nat) (e : TypeId) (i : TypeInfo) (z : Value) (size bytes : Nat) (ht : P.underlying t = some (.slice e)) (hi : P.info? e = some i) (hz : i.zero = some z)
    (hsize : i.size = size) (hby : i.bytes = bytes) (hzs : z.cells.size = size) (hsz : 0 < size)
    (v : Value) (n : Nat) (xs : List Value) (hs : a.eval s = v) (hown : w.ownsRow base e size v n xs)
    (ad : Addr) (m c : Nat) (news : List Value) (hx : a.eval x = .slice (some ad) m c) (hl : news.length = m * size) (hnews : ∀ j u, news[j]? = some u → w.cell? (ad.add j) = some u) (h1 : ∀ u ∈ news, u.oneCell' = true)
    (h63 : n + m ≤ maxLen) (hbytes : (n + m) * bytes ≤ 140737488355328) (hbase : base ≤ w.heap.size)
    (h : ∀ v' w', w'.ownsRow base e size v' (n + m) (xs ++ news) → w.grownBy w' v.ownBlock → (v' = .slice none 0 0 ↔ v = .slice none 0 0 ∧ m = 0) → (v'.ownBlock = v.ownBlock ∨ v'.ownBlock = some w.heap.size) → K (a.put o.dst v') w') :
    if Region.wanted o (yielded ops a.tmps) = true then Oper.wp P o a w K Q else E := by
  have hw : Region.wanted o (yielded ops a.tmps) = true := by simp [Region.wanted, hg]
  rw [if_pos hw]
  obtain ⟨v', w', hr, h2, h3, h4, h5⟩ := run_append_own_at (P := P) w base t o.type e i z size bytes ht hi hz hsize hby hzs hsz v n xs hown ad m c news hl hnews h1 h63 hbytes hbase
  unfold Oper.wp
  simp [execOp, ho, resolve, invoke, builtin, hs, hx, hr, Result.andThen]
  exact h v' w' h2 h3 h4 h5
set_option maxRecDepth 100000 in
set_option maxHeartbeats 1000000 in
theorem put_any (B0 B g b N M : Nat) (qs : List Tr) (t : Tr) (w : World) (hc : Cat w B g b N M qs) (h1 : B0 ≤ g) (h2 : B0 ≤ b) (h3 : g < B) (h4 : b < B) (h5 : B ≤ w.heap.size) (hw : wfI t.nu) (hl : qs.length ≤ 2000) (hM : M ≤ w.heap.size) (hgN : g < N ∨ M ≤ g) (hbN : b < N ∨ M ≤ b) :
    Calls Tryz.prog 96 #[.pointer (some ⟨g, 0, none⟩), t.agg] w fun e w' => e = .returned (.bool (okPut qs t)) ∧ Below B0 w w' ∧ KeepX g b w w' ∧ Kept N M w w' ∧ (okPut qs t = true → Cat w' B g b N M (qs ++ [t])) := by
  obtain ⟨tv, D, hg, hown, hci, hrow, haw⟩ := hc
  obtain ⟨i0, hi, hz0, hz1, hz2⟩ := info_parts iRef_info
  obtain ⟨an, cn, rfl⟩ := owns_sliceT hrow
  obtain ⟨-, a9, c9, e9, hres⟩ := resT_of_owns hrow
  injection e9 with f1 f2 f3
  subst f1
  subst f3
  clear f2
  have HBad := hd (fun j hj h => okPut_bad (qs := qs) (t := t) (j := j) hj h)
  have HYes := hd (fun h1 h => okPut_yes (qs := qs) (t := t) h1 h)
  have HNo : Hid ((qs.map Tr.nu).contains t.nu = true → okPut qs t = false) := fun h => by show okPut qs t = false; unfold okPut; rw [h]; rfl
  have HHs := hd (hci.1 t.nu)
  have HAdd := hd (fun h => hci.add hown.isMap t h)
  have HCo := hd (fun q w' => collide_any t q w')
  generalize okPut qs t = R at *
  have htn : Hid (wfI t.nu) := hw
  generalize hT : t = t0 at *
  obtain ⟨n0, l0, lo0, hi0⟩ := t0
  dsimp only at *
  generalize hW0 : w.alloc (.cells #[.int .i64 n0, .int .i64 l0, .string lo0, .string hi0] 45) = W0
  have hA : W0.heap[w.heap.size]? = some (.cells #[.int .i64 n0, .int .i64 l0, .string lo0, .string hi0] 45 (0, 0)) := by rw [← hW0]; exact World.heap_alloc_new _ _
  have hb0 : Below w.heap.size w W0 := by rw [← hW0]; exact (Below.refl _ _).alloc (Nat.le_refl _) _
  have hsz : W0.heap.size = w.heap.size + 1 := by rw [← hW0]; simp
  have hgw := heap_lt hg
  have hg0 := (hb0.block g hgw).trans hg
  have hownA : W0.ownsMap Tryz.prog 3 (plainElem Tryz.prog 3) b qs.length D := by rw [← hW0]; exact hown.alloc _
  have hrowA : W0.ownsRow B 45 4 (.slice an qs.length cn) qs.length (cellsT qs) := by rw [← hW0]; exact hrow.alloc _
  have hlie := hres.lie.below hb0
  obtain ⟨x0, x1, x2, x3⟩ := four_cells hA
  have HHas := hd (fun w' h h' => has_any g b qs.length (.slice an qs.length cn) 155 D n0 w' htn.out h h')
  have HO := hd hownA
  have HR := hd hrowA
  have HG := hd hg0
  have HA := hd hA
  have HB := hd hb0
  have HL := hd hlie
  obtain ⟨g0, g1, -, -⟩ := two_cells hg0
  clear hownA hrowA hg0 hA hb0 hlie hres hrow hown hg hci
  go_enter Tryz.func96, Tryz.ntmps96
  cases hcn : (qs.map Tr.nu).contains n0 with
  | true =>
    have hR := HNo.out hcn
    subst hR
    rw [HHs.out, hcn] at HHas
    go_wp2_with (go_at_call 92; refine (HHas.out _ HG.out HO.out).mono ?_; rintro e w9 ⟨rfl, hw9⟩; have hw9' := hw9.symm; subst hw9'; clear hw9)
    go_ret
    exact ⟨rfl, HB.out.mono (by omega), KeepX.of_below HB.out, Kept.of HB.out hM, fun h => by cases h⟩
  | false =>
    rw [HHs.out, hcn] at HHas
    go_wp2_with (go_at_call 92; refine (HHas.out _ HG.out HO.out).mono ?_; rintro e w9 ⟨rfl, hw9⟩; have hw9' := hw9.symm; subst hw9'; clear hw9)
    go_loopw [16] (fun i wr => ∃ k : Nat, i = .int .i64 k ∧ k ≤ qs.length ∧ Hid (∀ j, j < k → collT ⟨n0, l0, lo0, hi0⟩ (qs.getD j tr0) = false) ∧ Below W0.heap.size W0 wr) (fun i _ => qs.length - (intOf i).toNat)
    case atStart => exact ⟨0, rfl, Nat.zero_le _, fun j hj => absurd hj (Nat.not_lt_zero _), Below.refl _ _⟩
    case round =>
      clear x0 x1 x2 x3 g0 g1
      obtain ⟨k, rfl, hk, HC2, hb⟩ := hrel
      have hbs := hb.size
      obtain ⟨x0, x1, x2, x3⟩ := four_cells ((hb.block w.heap.size (by omega)).trans HA.out)
      obtain ⟨g0, g1, z0, z1⟩ := two_cells ((hb.block g (by omega)).trans HG.out)
      have hlA : w.heap.size < wr.heap.size := by omega
      have hlG : g < wr.heap.size := by omega
      by_cases hlk : k < qs.length
      · obtain ⟨tb, off, rfl, hbl, cA0, cA1, cA2, cA3⟩ := HL.out.at hlk
        have c0 := (hb.cell (p := ⟨tb, _, none⟩) hbl).trans cA0
        have c1 := (hb.cell (p := ⟨tb, _, none⟩) hbl).trans cA1
        have c2 := (hb.cell (p := ⟨tb, _, none⟩) hbl).trans cA2
        have c3 := (hb.cell (p := ⟨tb, _, none⟩) hbl).trans cA3
        have hik : (k : Int) < (qs.length : Int) := by omega
        have HDk := hd (HBad.out k hlk)
        have HC3 : Hid (collT ⟨n0, l0, lo0, hi0⟩ (qs.getD k tr0) = false → ∀ j, j < k + 1 → collT ⟨n0, l0, lo0, hi0⟩ (qs.getD j tr0) = false) := fun h j hj => by
          by_cases e : j = k
          · subst e; exact h
          · exact HC2.out j (by omega)
        have HB1 := hd hb
        clear HC2 hb cA0 cA1 cA2 cA3
        have HCk := hd (HCo.out (qs.getD k tr0))
        generalize qs.getD k tr0 = f at *
        obtain ⟨fn, fl, flo, fhi⟩ := f
        dsimp only at *
        cases hco : collT ⟨n0, l0, lo0, hi0⟩ ⟨fn, fl, flo, fhi⟩ with
        | true =>
          have hR := HDk.out hco
          subst hR
          rw [hco] at HCk
          go_wp2_with (go_at_call 114; refine (HCk.out _).mono ?_; rintro e w9 ⟨rfl, hb9⟩)
          go_ret
          exact ⟨rfl, (HB.out.mono (by omega)).trans (((HB1.out.alloc hbs _).trans (hb9.mono (by simp; omega))).mono (by omega)), KeepX.of_below (HB.out.trans (((HB1.out.alloc hbs _).trans (hb9.mono (by simp; omega))).mono (by omega))), Kept.of (HB.out.trans (((HB1.out.alloc hbs _).trans (hb9.mono (by simp; omega))).mono (by omega))) hM, fun h => by cases h⟩
        | false =>
          have HC4 := hd (HC3.out hco)
          rw [hco] at HCk
          clear HC3
          go_wp2_with (go_at_call 114; refine (HCk.out _).mono ?_; rintro e w9 ⟨rfl, hb9⟩)
          refine ⟨⟨k + 1, by simp, by omega, HC4, (HB1.out.alloc hbs _).trans (hb9.mono (by simp; omega))⟩, by simp only [intOf]; omega⟩
      · obtain rfl : k = qs.length := by omega
        have hik : ¬ (qs.length : Int) < (qs.length : Int) := by omega
        have hR := HYes.out hcn HC2.out
        subst hR
        have HOr := hd (HO.out.kept (row := none) ⟨hb.os, hb.tape, hb.output, hb.size, fun i hi _ => hb.block i hi⟩ (by simp))
        have HRr := hd (owns_below HR.out hb)
        have HA1 := hd (HAdd.out hcn)
        obtain ⟨w2, hrun, hown2, hturn2⟩ := HOr.out.drew.store (t := 153) keyI Tryz.underlying153 (by unfold maxLen; omega) (keyI_mk htn.out) (plainElem_int Tryz.underlying3 (wfN qs.length (by omega)))
        have hgr2 := hturn2.grown
        have hbg2 : ∀ i, i < wr.heap.size → i ≠ b → w2.heap[i]? = wr.heap[i]? := fun i hi hne => hgr2.block i hi (fun e => hne (by injection e))
        have hgG := (hb.block g (by omega)).trans HG.out
        have hgA := (hb.block w.heap.size (by omega)).trans HA.out
        have hgb : g ≠ b := fun e => by
          obtain ⟨es, cl, hm, -⟩ := HOr.out
          rw [← e, hgG] at hm
          cases hm
        have hG2 := (hbg2 g (by omega) hgb).trans hgG
        have hA2 := (hbg2 w.heap.size (by omega) (by omega)).trans hgA
        obtain ⟨p0, p1, p2, p3⟩ := four_cells hA2
        obtain ⟨q0, q1, y0, y1⟩ := two_cells hG2
        go_wp2_with fail
        go_region_held3 (fun w' => w'.cell? ⟨g, 1, none⟩ = some (.map (some b)) ∧ w'.cell? ⟨g, 0, none⟩ = some (.slice an qs.length cn) ∧ w'.cell? ⟨w.heap.size, 0, none⟩ = some (.int .i64 n0)) (simp [go_sem, *]) (fail)
        go_wp2_with fail
        have HR2 := hd (HRr.out.drew.kept hgr2 (.inr (fun e => by have := owns_base HRr.out b e; omega)))
        have hw2s : wr.heap.size ≤ w2.heap.size := hgr2.size
        have hb2 : B ≤ w2.heap.size := by omega
        have hlA2 : w.heap.size < w2.heap.size := by omega
        have hlG2 : g < w2.heap.size := by omega
        clear x0 x1 x2 x3 g0 g1 z0 z1 hrun
        go_region_law ((refine step_append_own_at rfl (.tmp 39) (.tmp 41) 38 rfl B 45 i0 _ 4 48 Tryz.underlying38 hi hz0 hz1 hz2 rfl (by decide) _ _ _ (by simp [Act.eval, Act.put]) ((HR2.out.alloc (.cells #[.int .i64 n0, .int .i64 l0, .string lo0, .string hi0] 45)).drew) ⟨w2.heap.size, 0, none⟩ 1 1 [.int .i64 n0, .int .i64 l0, .string lo0, .string hi0] (by simp [Act.eval, Act.put]) rfl (cell_first4 w2 _ _ _ _ _) (fun x hx => by simp at hx; rcases hx with rfl | rfl | rfl | rfl <;> rfl) (by unfold maxLen; omega) (by omega) (by simp; omega) ?_; intro v8 w8 hown8 hgrow8 hnil8 hat8; obtain ⟨an8, cn8, rfl⟩ := owns_sliceT hown8; have hG8 := (hgrow8.block g (by simp; omega) (fun e => by have := owns_base HR2.out g e.symm; omega)).trans ((Below.heap_alloc _ _ _ hlG2).trans hG2); obtain ⟨k0, k1, k2, k3⟩ := two_cells hG8))
        all_goals go_wp2_with fail
        all_goals go_ret
        all_goals
          have hbW : Below B0 w wr := (HB.out.mono (by omega)).trans (hb.mono (by omega))
          have hbW2 : Below B0 w w2 := hbW.drew.grown hgr2 (by show B0 ≤ wr.heap.size; omega) (fun k e => by injection e with e; omega)
          have hbW8 : Below B0 w w8 := ((hbW2.alloc (by omega) _).drew).grown hgrow8 (by simp; omega) (fun k e => by have := owns_base HR2.out k e; omega)
          refine ⟨rfl, hbW8.setCell (p := ⟨g, 0, none⟩) h1 _, ?_, ?_, _, _, setB hG8 _, ?_, HA1.out, ?_, ?_⟩
          · intro i o ho hig hib hit
            have hiw := heap_lt ho
            have o1 := (hb.block i (by omega)).trans ((HB.out.block i hiw).trans ho)
            have o2 := (hbg2 i (by omega) hib).trans o1
            have o8 := (hgrow8.block i (by simp; omega) (fun e => by
              obtain ⟨cs, hcs⟩ := row_ref HR2.out e.symm
              rw [o2] at hcs
              injection hcs with hcs
              exact hit _ _ hcs)).trans ((Below.heap_alloc _ _ _ (by omega)).trans o2)
            exact (Below.heap_setCell _ _ _ _ (by simpa using hig)).trans o8
          · intro i hiN hiM
            have hig : i ≠ g := by omega
            have hib : i ≠ b := by omega
            have o1 := (hb.block i (by omega)).trans (HB.out.block i (by omega))
            have o2 := (hbg2 i (by omega) hib).trans o1
            have o8 := (hgrow8.block i (by simp; omega) (fun e => by
              have := haw i e.symm
              omega)).trans ((Below.heap_alloc _ _ _ (by omega)).trans o2)
            exact (Below.heap_setCell _ _ _ _ (by simpa using hig)).trans o8
          · rw [List.length_append]
            exact (((hown2.alloc _).drew).kept hgrow8 (fun e => by have := owns_base HR2.out b e.symm; omega)).setCell (a := ⟨g, 0, none⟩) (fun e => hgb e.symm) _
          · rw [List.length_append, cellsT_snoc]
            exact ownsRow_set hown8 h3
          · intro k hk
            rcases hat8 with e | e
            · rw [e] at hk
              exact haw k hk
            · rw [e] at hk
              injection hk with hk
              right
              rw [← hk]
              simp
              omega
end Go.Proofs.YtphikgobdfknkaaGreatDoor
