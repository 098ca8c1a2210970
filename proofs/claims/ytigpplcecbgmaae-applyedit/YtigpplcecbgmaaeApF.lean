
import Derived.Test.YtigpplcecbgmaaeApE
import Derived.Test.YtigpplcecbgmaaeApS
namespace Go.Proofs.Ytigpplcecbgmaae
open Go.RowKit Go.Maps
set_option linter.unusedVariables false
set_option linter.unusedSimpArgs false

theorem run_makeMap_hint (n : Int) (w : World) : (Instr.makeMap 94 (some (.int .i64 n))).run Try.prog w = .ok (.map (some w.heap.size)) (w.alloc (.map #[] 0)) := by
  simp [Instr.makeMap, run_underlying Try.underlying94, asInt, asIntOf, Result.andThen]
abbrev wfI (x : Int) : Prop := (Lit.int .i64 x).wf = true
theorem wfN (k : Nat) (h : k ≤ 1048576) : wfI (k : Int) := by
  unfold wfI
  have h1 : IntKind.min .i64 ≤ (k : Int) := by have : IntKind.min .i64 = -9223372036854775808 := by decide
                                               omega
  have h2 : (k : Int) ≤ IntKind.max .i64 := by have : IntKind.max .i64 = 9223372036854775807 := by decide
                                               omega
  show (decide (IntKind.min .i64 ≤ (k : Int)) && decide ((k : Int) ≤ IntKind.max .i64)) = true
  rw [decide_eq_true h1, decide_eq_true h2]
  rfl
theorem wfG : wfI (-1) := by decide
def wiL (ts : List Tr) (ks : List Int) : List Tr := if delsOk ts ks = true then leftT ts ks else []

theorem ownsT_lit (w : World) (B : Nat) (hB : B ≤ w.heap.size) : (w.alloc (.cells #[] 54)).ownsRow B 54 4 (.slice (some ⟨w.heap.size, 0, none⟩) 0 0) 0 (cellsT []) :=
  ⟨rfl, .inr ⟨w.heap.size, 0, #[], rfl, hB, World.heap_alloc_new _ _, Nat.le_refl _, Nat.zero_le _, rfl, rfl⟩⟩
theorem cell_new4 (w : World) (o : Obj) (x0 x1 x2 x3 : Value) (t : TypeId) : ∀ j u, [x0, x1, x2, x3][j]? = some u → ((w.alloc o).alloc (.cells #[x0, x1, x2, x3] t)).cell? ((⟨w.heap.size + 1, 0, none⟩ : Addr).add j) = some u := by
  intro j u hj
  have h := cell_first4 (w.alloc o) x0 x1 x2 x3 t j u hj
  rwa [show (w.alloc o).heap.size = w.heap.size + 1 by simp] at h
set_option maxRecDepth 100000 in
set_option maxHeartbeats 1000000 in
theorem without_any (a : Option Addr) (c : Nat) (ts : List Tr) (d : Option Addr) (cd : Nat) (ks : List Int) (w : World) (ht : LieT w a ts) (hy : LieI w d ks) (hft : FitsT ts) (hwt : ∀ t ∈ ts, wfI t.nu) (hwk : ∀ x ∈ ks, wfI x) (hl1 : ts.length ≤ 1000) (hl2 : ks.length ≤ 1000) :
    Calls Try.prog 39 #[.slice a ts.length c, .slice d ks.length cd] w fun r w' => ∃ a' c', r = .returned (.tuple #[.slice a' (wiL ts ks).length c', .bool (delsOk ts ks)]) ∧ ResT w' w.heap.size a' (wiL ts ks) ∧ Below w.heap.size w w' := by
  obtain ⟨i0, hi, hz0, hz1, hz2⟩ := info_parts iRef_info
  have hmm := run_makeMap_hint
  have HDel : Hid (∀ j, j < ks.length → (ts.map Tr.nu).contains (ks.getD j 0) = false → delsOk ts ks = false) := fun j hj h => by
    cases h' : delsOk ts ks with
    | false => rfl
    | true =>
      have hm := List.all_eq_true.1 h' (ks.getD j 0) (by rw [show ks.getD j 0 = ks[j] by simp [List.getD, hj]]; exact List.getElem_mem hj)
      rw [h] at hm
      cases hm
  have HDelY : Hid ((∀ j, j < ks.length → (ts.map Tr.nu).contains (ks.getD j 0) = true) → delsOk ts ks = true) := fun h => by
    refine List.all_eq_true.2 fun x hx => ?_
    obtain ⟨j, hj, rfl⟩ := List.mem_iff_getElem.1 hx
    have := h j hj
    rwa [show ks.getD j 0 = ks[j] by simp [List.getD, hj]] at this
  have HLn : Hid (delsOk ts ks = false → wiL ts ks = []) := fun h => by simp [wiL, h]
  have HLy : Hid (delsOk ts ks = true → wiL ts ks = leftT ts ks) := fun h => by simp [wiL, h]
  generalize delsOk ts ks = ok at *
  have HO0 := hd (World.ownsMap_made (H := Unit) w Try.prog 3 (plainElem Try.prog 3))
  have HB0 : Hid (Below w.heap.size w (w.alloc (.map #[] 0))) := (Below.refl _ _).alloc (Nat.le_refl _) _
  have HT := hd ht
  have HY := hd hy
  have HW := hd hwt
  have HK := hd hwk
  clear ht hy hwt hwk
  generalize wiL ts ks = L at *
  go_enter Try.func39, Try.ntmps39
  go_wp2_with fail
  clear hmm
  go_loopw [21] (fun i wr => ∃ (k : Nat) (D : DataW Unit), i = .int .i64 k ∧ k ≤ ts.length ∧ wr.ownsMap Try.prog 3 (plainElem Try.prog 3) w.heap.size k D ∧ MIs D ((ts.take k).map Tr.nu) [] ∧ Below w.heap.size w wr) (fun i _ => ts.length - (intOf i).toNat)
  case atStart => exact ⟨0, _, rfl, Nat.zero_le _, HO0.out, fun x => ⟨rfl, fun h => by simp at h⟩, HB0.out⟩
  case round =>
    clear HO0 HB0
    obtain ⟨k, D, rfl, hk, hown, hmi, hb⟩ := hrel
    have hbs := hb.size
    have hwz := hown.lt
    by_cases hlk : k < ts.length
    · obtain ⟨tb, off, rfl, hbl, cA0, cA1, cA2, cA3⟩ := HT.out.at hlk
      have c0 := (hb.cell (p := ⟨tb, _, none⟩) hbl).trans cA0
      have c1 := (hb.cell (p := ⟨tb, _, none⟩) hbl).trans cA1
      have c2 := (hb.cell (p := ⟨tb, _, none⟩) hbl).trans cA2
      have c3 := (hb.cell (p := ⟨tb, _, none⟩) hbl).trans cA3
      have hik : (k : Int) < (ts.length : Int) := by omega
      have HN : Hid ((ts.take (k + 1)).map Tr.nu = (ts.take k).map Tr.nu ++ [(ts.getD k tr0).nu]) := by show _ = _; rw [takeT_snoc ts k hlk]; simp
      have HX := hd (HW.out (ts.getD k tr0) (by rw [show ts.getD k tr0 = ts[k] by simp [List.getD, hlk]]; exact List.getElem_mem hlk))
      have HWk := hd (wfN k (by omega))
      have HM := hd (hmi.add hown.isMap (ts.getD k tr0).nu (k : Int) (by omega))
      rw [← HN.out] at HM
      clear HN hmi cA0 cA1 cA2 cA3
      generalize ts.getD k tr0 = f at *
      obtain ⟨fn, fl, flo, fhi⟩ := f
      dsimp only at *
      have HO := hd hown
      have HB := hd hb
      clear hown hb
      go_wp2_with (at_mapUpdate; refine wpList_mapUpdate_in _ rfl _ _ _ 94 rfl 3 3 keyI Try.underlying94 (plainElem Try.prog 3) w.heap.size k D rfl (HO.out.alloc _) (by unfold maxLen; omega) _ _ _ rfl rfl (keyI_mk HX.out) (.lit (.int .i64 k)) [] (plainElem_int Try.underlying3 HWk.out) ?_; intro w1 hown1 hturn1)
      refine ⟨⟨k + 1, _, by simp, by omega, hown1, HM.out, ?_⟩, by simp only [intOf]; omega⟩
      exact below_turned (HB.out.alloc hbs _) hturn1 (by simp; omega) (Nat.le_refl _)
    · obtain rfl : k = ts.length := by omega
      have hik : ¬ (ts.length : Int) < (ts.length : Int) := by omega
      rw [List.take_length] at hmi
      have HO := hd hown
      have HB := hd hb
      have HM := hd hmi
      clear hown hb hmi
      generalize hns : ts.map Tr.nu = ns at *
      go_wp2_with fail
      go_loopw [33] (fun i wr => ∃ (k : Nat) (D : DataW Unit), i = .int .i64 k ∧ k ≤ ks.length ∧ wr.ownsMap Try.prog 3 (plainElem Try.prog 3) w.heap.size (ts.length + k) D ∧ MIs D ns (ks.take k) ∧ Hid (∀ j, j < k → ns.contains (ks.getD j 0) = true) ∧ Below w.heap.size w wr) (fun i _ => ks.length - (intOf i).toNat)
      case atStart => exact ⟨0, D, rfl, Nat.zero_le _, HO.out, HM.out, fun j hj => absurd hj (Nat.not_lt_zero _), HB.out⟩
      case round =>
        clear HO HB HM D hbs hwz
        obtain ⟨k, D, rfl, hk, hown, hmi, HC2, hb⟩ := hrel
        have hbs := hb.size
        have hwz := hown.lt
        by_cases hlk : k < ks.length
        · obtain ⟨db, off, rfl, hbl, cA0⟩ := HY.out.at hlk
          have c0 := (hb.cell (p := ⟨db, _, none⟩) hbl).trans cA0
          have hikk : (k : Int) < (ks.length : Int) := by omega
          have HX := hd (HK.out (ks.getD k 0) (by rw [show ks.getD k 0 = ks[k] by simp [List.getD, hlk]]; exact List.getElem_mem hlk))
          have HT1 : Hid (ks.take (k + 1) = ks.take k ++ [ks.getD k 0]) := by show _ = _; rw [show ks.getD k 0 = ks[k] by simp [List.getD, hlk]]; exact (List.take_append_getElem hlk).symm
          have HHas := hd (hmi (ks.getD k 0)).1
          have HDk := hd (HDel.out k hlk)
          have HG := hd (fun h => hmi.gone hown.isMap (ks.getD k 0) h)
          rw [← HT1.out] at HG
          have HC3 : Hid (ns.contains (ks.getD k 0) = true → ∀ j, j < k + 1 → ns.contains (ks.getD j 0) = true) := fun h j hj => by
            by_cases e : j = k
            · subst e; exact h
            · exact HC2.out j (by omega)
          have HO := hd hown
          have HB := hd hb
          clear HT1 HC2 hmi hown hb cA0
          cases hcn : ns.contains (ks.getD k 0) with
          | true =>
            have HC4 := hd (HC3.out hcn)
            have HG4 := hd (HG.out hcn)
            rw [hcn] at HHas
            clear HC3 HG HDk hcn
            generalize ks.getD k 0 = x at *
            go_wp2_with (first
              | (at_lookup; refine wpList_lookup_own_ok_int _ rfl _ _ 94 rfl 3 3 .i64 keyI Try.underlying94 Try.underlying3 (zeroI _) w.heap.size (ts.length + k) D rfl HO.out _ _ rfl (keyI_mk HX.out) ?_; intro c2 hc hwc; rw [HHas.out])
              | (at_mapUpdate; refine wpList_mapUpdate_in _ rfl _ _ _ 94 rfl 3 3 keyI Try.underlying94 (plainElem Try.prog 3) w.heap.size (ts.length + k) D rfl HO.out (by unfold maxLen; omega) _ _ _ rfl rfl (keyI_mk HX.out) (.lit (.int .i64 (-1))) [] (plainElem_int Try.underlying3 wfG) ?_; intro w1 hown1 hturn1))
            refine ⟨⟨k + 1, _, by simp, by omega, hown1, HG4.out, HC4, ?_⟩, by simp only [intOf]; omega⟩
            exact below_turned HB.out hturn1 hbs (Nat.le_refl _)
          | false =>
            have hok := HDk.out hcn
            subst hok
            obtain rfl := HLn.out rfl
            rw [hcn] at HHas
            clear HC3 HG HDk hcn
            generalize ks.getD k 0 = x at *
            go_wp2_with (at_lookup; refine wpList_lookup_own_ok_int _ rfl _ _ 94 rfl 3 3 .i64 keyI Try.underlying94 Try.underlying3 (zeroI _) w.heap.size (ts.length + k) D rfl HO.out _ _ rfl (keyI_mk HX.out) ?_; intro c2 hc hwc; rw [HHas.out])
            refine bodyPost_ret (v := .tuple #[.slice none 0 0, .bool false]) (by simp [results, Try.results39, go_sem]) rfl ?_
            exact ⟨_, ⟨_, rfl⟩, .inl rfl, HB.out⟩
        · obtain rfl : k = ks.length := by omega
          have hikk : ¬ (ks.length : Int) < (ks.length : Int) := by omega
          rw [List.take_length] at hmi
          have hok := HDelY.out HC2.out
          subst hok
          obtain rfl := HLy.out rfl
          have HO := hd (hown.alloc (.cells #[] 54))
          have HR := hd (ownsT_lit wr (w.heap.size + 1) (by omega))
          have HB := hd (hb.alloc hbs (.cells #[] 54))
          have HM := hd hmi
          clear hown hb hmi
          go_wp2_with fail
          go_loopw [13, 51] (fun vt i wr => ∃ k : Nat, i = .int .i64 k ∧ k ≤ ts.length ∧ wr.ownsMap Try.prog 3 (plainElem Try.prog 3) w.heap.size (ts.length + ks.length) D ∧ wr.ownsRow (w.heap.size + 1) 54 4 vt (leftT (ts.take k) ks).length (cellsT (leftT (ts.take k) ks)) ∧ Below w.heap.size w wr) (fun _ i _ => ts.length - (intOf i).toNat)
          case atStart => exact ⟨0, rfl, Nat.zero_le _, HO.out, HR.out, HB.out⟩
          case round =>
            clear HO HR HB hbs hwz
            obtain ⟨k, rfl, hk, hown, hrow, hb⟩ := hrel
            have hbs := hb.size
            have hwz := hown.lt
            obtain ⟨an, cn, rfl⟩ := owns_sliceT hrow
            by_cases hlk : k < ts.length
            · obtain ⟨tb, off, rfl, hbl, cA0, cA1, cA2, cA3⟩ := HT.out.at hlk
              have c0 := (hb.cell (p := ⟨tb, _, none⟩) hbl).trans cA0
              have c1 := (hb.cell (p := ⟨tb, _, none⟩) hbl).trans cA1
              have c2 := (hb.cell (p := ⟨tb, _, none⟩) hbl).trans cA2
              have c3 := (hb.cell (p := ⟨tb, _, none⟩) hbl).trans cA3
              have hik : (k : Int) < (ts.length : Int) := by omega
              have hmem : ts.getD k tr0 ∈ ts := by rw [show ts.getD k tr0 = ts[k] by simp [List.getD, hlk]]; exact List.getElem_mem hlk
              have HX := hd (HW.out (ts.getD k tr0) hmem)
              have hc1 : ns.contains (ts.getD k tr0).nu = true := by rw [← hns]; simp; exact ⟨_, hmem, rfl⟩
              obtain ⟨dd, hat, hgo⟩ := (HM.out (ts.getD k tr0).nu).2 hc1
              have HAt := hd hat
              have HLf : Hid (leftT (ts.take (k + 1)) ks = leftT (ts.take k) ks ++ (if ks.contains (ts.getD k tr0).nu = true then [] else [ts.getD k tr0])) := by show _ = _; rw [takeT_snoc ts k hlk, leftT_snoc]
              have hll : (leftT (ts.take k) ks).length ≤ 1000 := by
                have := leftT_len (ts.take k) ks
                rw [List.length_take] at this
                omega
              have HO := hd hown
              have HR := hd hrow
              have HB := hd hb
              clear hown hrow hb hat hmem hc1 cA0 cA1 cA2 cA3
              generalize leftT (ts.take k) ks = P at *
              generalize ts.getD k tr0 = f at *
              obtain ⟨fn, fl, flo, fhi⟩ := f
              dsimp only at *
              cases hcn : ks.contains fn with
              | true =>
                have hd1 : dd = -1 := hgo.2 hcn
                subst hd1
                have HLt : Hid (leftT (ts.take (k + 1)) ks = P) := by show _ = _; rw [HLf.out, if_pos hcn, List.append_nil]
                clear HLf hgo hcn
                go_wp2_with (at_lookup; refine wpList_lookup_own_int _ rfl _ _ 94 rfl 3 3 .i64 keyI Try.underlying94 Try.underlying3 (zeroI _) w.heap.size (ts.length + ks.length) D rfl (HO.out.alloc _) _ _ rfl (keyI_mk HX.out) ?_; intro cc hc hwc; have hce := hc.symm.trans HAt.out; injection hce with hce; injection hce with hce1 hce2; subst hce2)
                refine ⟨⟨k + 1, by simp, by omega, HO.out.alloc _, ?_, HB.out.alloc hbs _⟩, by simp only [intOf]; omega⟩
                rw [HLt.out]
                exact HR.out.alloc _
              | false =>
                have hd1 : (dd != -1) = true := by
                  rw [bne_iff_ne]
                  intro h
                  rw [hgo.1 h] at hcn
                  cases hcn
                have HLt : Hid (leftT (ts.take (k + 1)) ks = P ++ [⟨fn, fl, flo, fhi⟩]) := by show _ = _; rw [HLf.out, if_neg (by rw [hcn]; simp)]
                clear HLf hgo hcn
                go_wp2_with (first
                  | (at_lookup; refine wpList_lookup_own_int _ rfl _ _ 94 rfl 3 3 .i64 keyI Try.underlying94 Try.underlying3 (zeroI _) w.heap.size (ts.length + ks.length) D rfl (HO.out.alloc _) _ _ rfl (keyI_mk HX.out) ?_; intro cc hc hwc; have hce := hc.symm.trans HAt.out; injection hce with hce; injection hce with hce1 hce2; subst hce2)
                  | (at_builtin; refine wpList_append_own _ rfl _ _ 22 rfl (w.heap.size + 1) 54 i0 _ 4 48 Try.underlying22 hi hz0 hz1 hz2 rfl (by decide) _ _ _ rfl ((HR.out.alloc _).alloc _) ⟨wr.heap.size + 1, 0, none⟩ 1 1 [.int .i64 fn, .int .i64 fl, .string flo, .string fhi] rfl rfl (cell_new4 _ _ _ _ _ _ _) (fun x hx => by simp at hx; rcases hx with rfl | rfl | rfl | rfl <;> rfl) (by unfold maxLen; omega) (by omega) (by first | omega | (simp; omega)) ?_; intro v8 w8 hown8 hgrow hnil))
                have hbase := owns_base HR.out
                refine ⟨⟨k + 1, by simp, by omega, ((HO.out.alloc _).alloc _).kept hgrow (fun e => by have := hbase _ e.symm; omega), ?_, ((HB.out.alloc hbs _).alloc (by simp; omega) _).grown hgrow (by simp; omega) (fun q e => by have := hbase q e; omega)⟩, by simp only [intOf]; omega⟩
                rw [HLt.out, cellsT_snoc, List.length_append]
                exact hown8
            · obtain rfl : k = ts.length := by omega
              have hik : ¬ (ts.length : Int) < (ts.length : Int) := by omega
              rw [List.take_length] at hrow ⊢
              have HB := hd hb
              obtain ⟨-, a9, c9, e9, hres⟩ := resT_of_owns hrow
              injection e9 with f1 f2 f3
              subst f1
              subst f3
              clear f2
              have HR := hd (hres.mono (Nat.le_succ _))
              clear hres hrow hown hb
              go_wp2_with fail
              refine bodyPost_ret (v := .tuple #[.slice an (leftT ts ks).length cn, .bool true]) (by simp [results, Try.results39, go_sem]) rfl ?_
              exact ⟨_, ⟨_, rfl⟩, HR.out, HB.out⟩
end Go.Proofs.Ytigpplcecbgmaae
