import Derived.Test.YtogcpllpkdeehaaGreatDoorRlY
import Derived.Maps.OwnIn
import Derived.Deep.Upon
namespace Go.Proofs.YtogcpllpkdeehaaGreatDoor
open Go.RowKit Go.Maps
set_option linter.unusedVariables false
set_option linter.unusedSimpArgs false

/-- The entries of payloads, and whether all can be decoded. -/
def esT (ps : List ByteArray) : List En := ps.flatMap decL
def okD (ps : List ByteArray) : Bool := ps.all fun p => (dec p).isSome
/-- The payloads of the blocks at the beginning. -/
def pl (s : ByteArray) : List ByteArray := (rlL s 66).map rfB
/-- What ReadTable gives. -/
def rtO (s : ByteArray) : Option (List En) := if okD (pl s) = true ∧ s.size ≠ 0 ∧ tabT (esT (pl s)) = s then some (esT (pl s)) else none
def rtL (s : ByteArray) : List En := (rtO s).getD []
theorem esT_snoc (ps : List ByteArray) (p : ByteArray) : esT (ps ++ [p]) = esT ps ++ decL p := by simp [esT]
theorem okD_snoc (ps : List ByteArray) (p : ByteArray) : okD (ps ++ [p]) = (okD ps && (dec p).isSome) := by simp [okD]
theorem esT_len : ∀ (ps : List ByteArray), (esT ps).length ≤ 1000 * ps.length
  | [] => by simp [esT]
  | p :: ps => by
    have := esT_len ps
    have := decL_len p
    simp only [esT, List.flatMap_cons, List.length_append, List.length_cons] at *
    omega
theorem pl_len (s : ByteArray) : (pl s).length ≤ s.size := by unfold pl; rw [List.length_map]; exact rl_len s 66
theorem rtO_none {s : ByteArray} (h : ¬ (okD (pl s) = true ∧ s.size ≠ 0 ∧ tabT (esT (pl s)) = s)) : rtO s = none := by unfold rtO; rw [if_neg h]
theorem rtO_some {s : ByteArray} (h1 : okD (pl s) = true) (h2 : s.size ≠ 0) (h3 : tabT (esT (pl s)) = s) : rtO s = some (esT (pl s)) := by unfold rtO; rw [if_pos ⟨h1, h2, h3⟩]
theorem rtL_none {s : ByteArray} (h : rtO s = none) : rtL s = [] := by unfold rtL; rw [h]; rfl
theorem rtL_some {s : ByteArray} {xs : List En} (h : rtO s = some xs) : rtL s = xs := by unfold rtL; rw [h]; rfl
theorem rt_len (s : ByteArray) : (rtL s).length ≤ 300000 := by
  by_cases h : okD (pl s) = true ∧ s.size ≠ 0 ∧ tabT (esT (pl s)) = s
  · rw [rtL_some (rtO_some h.1 h.2.1 h.2.2)]
    by_cases hl : (esT (pl s)).length ≤ 300000
    · exact hl
    · have e : tabT (esT (pl s)) = ⟨#[]⟩ := by unfold tabT; rw [if_neg (fun k => hl k.1)]
      rw [e] at h
      exact absurd (by rw [← h.2.2]; rfl) h.2.1
  · rw [rtL_none (rtO_none h)]
    simp
theorem okD_bad {ps qs : List ByteArray} {p : ByteArray} (h : (dec p).isSome = false) : okD (ps ++ p :: qs) = false := by simp [okD, h]
theorem dec_all {p : ByteArray} {xs : List En} (h : dec p = some xs) : xs.all entOk = true := by
  unfold dec at h
  cases hg : gv p 0 with
  | none => rw [hg] at h; cases h
  | some q =>
    obtain ⟨n, c⟩ := q
    rw [hg] at h
    obtain ⟨g1, g2, g3, g4⟩ := gv_some (A := 0) hg
    simp only at h
    split at h
    · cases hp : ps p n c with
      | none => rw [hp] at h; cases h
      | some r =>
        obtain ⟨ys, E⟩ := r
        rw [hp] at h
        simp only at h
        split at h
        · rename_i he
          cases h
          cases ha : xs.all entOk with
          | true => rfl
          | false =>
            have e0 : encT xs = ⟨#[]⟩ := by unfold encT; rw [if_neg]; rintro ⟨-, h2⟩; rw [ha] at h2; cases h2
            rw [e0] at he
            have h0 : p.size = 0 := by rw [← he]; rfl
            omega
        · cases h
    · cases h
theorem decL_all (p : ByteArray) : (decL p).all entOk = true := by
  unfold decL
  cases h : dec p with
  | none => rfl
  | some xs => exact dec_all h
theorem esT_all : ∀ (ps : List ByteArray), (esT ps).all entOk = true
  | [] => rfl
  | p :: ps => by
    have h1 := esT_all ps
    have h2 := decL_all p
    simp only [esT, List.flatMap_cons, List.all_append, Bool.and_eq_true] at *
    exact ⟨h2, h1⟩
theorem fits_all {xs : List En} (h : xs.all entOk = true) : FitsE xs := fun e he => by
  have h1 := (entOk_iff _).1 (List.all_eq_true.1 h e he)
  unfold maxLen
  omega
end Go.Proofs.YtogcpllpkdeehaaGreatDoor
namespace Go.Proofs.YtogcpllpkdeehaaGreatDoor
open Go.RowKit Go.Maps Go.Shelf
attribute [local go_sem] Oper.semAt_some
set_option linter.unusedVariables false
set_option linter.unusedSimpArgs false

theorem hdR {p : Prop} (h : p) : Hid p := h
theorem rf_size (s : ByteArray) (p : Nat) : (rfB (rf s p)).size ≤ s.size := by
  cases h : rf s p with
  | none => exact Nat.zero_le _
  | some q =>
    obtain ⟨k, l, n⟩ := q
    show l.toArray.size ≤ _
    rw [List.size_toArray]
    unfold rf rfAt at h
    simp only [Int.toNat_natCast] at h
    split at h
    · split at h
      · rename_i h1 h2
        obtain ⟨-, -, h3, -⟩ := h2
        simp only [Option.some.injEq, Prod.mk.injEq] at h
        obtain ⟨-, rfl, -⟩ := h
        have e : s.data.toList.length = s.size := len_data s
        rw [e] at h3
        rw [pay_len]
        unfold pagesN at h3
        omega
      · cases h
    · cases h
/-- What is found in s is no longer than s. -/
abbrev Fs (s : ByteArray) := { x : Fr // (rfB x).size ≤ s.size }
set_option maxRecDepth 100000 in
set_option maxHeartbeats 1000000 in
theorem frames2_in (n : Nat) (hn : 1 ≤ n) (l bs n₀ : Nat) (s : ByteArray) (hs : s.size ≤ 1048576) (J Jx : List (Fs s) → World → Prop) (W0 : World) (hJ : AbidesFrom W0.heap.size J) (Kp : World → World → Prop) (hKp : ∀ A B, Kp A B → KF n₀ bs A B)
    (hY : ∀ pre (x : Fs s) W, J pre W → pre.length < (frs s 0).length → YieldAt Fence.wide (n - 1) Tryz.prog l #[rfV x.1] W fun e W' =>
      (e = .returned (.bool true) ∧ J (pre ++ [x]) W' ∧ Kp W W') ∨ (e = .returned (.bool false) ∧ Jx (pre ++ [x]) W'))
    (hbs : W0.cell? ⟨bs, 0, none⟩ = some (.string s)) (hst : Steps W0) (hg : 0 < n₀) (h0 : J [] W0) :
    CallsIn Fence.wide n Tryz.prog 57 #[.func (.yield l) #[] #[], .pointer (some ⟨bs, 0, none⟩)] W0 fun e W' => (∃ v, e = .returned v) ∧
      ((∃ ys : List (Fs s), ys.map Subtype.val = frs s 0 ∧ J ys W') ∨ (∃ pre : List (Fs s), pre.map Subtype.val <+: frs s 0 ∧ Jx pre W')) := by
  obtain ⟨A, HA⟩ : ∃ A, Hid (frs s 0 = A) := ⟨_, rfl⟩
  rw [HA.out] at hY ⊢
  replace hY := hd hY
  refine callsIn_of_wp Tryz.func57 rfl trivial ?_ rfl
  simp only [Tryz.ntmps57, List.size_toArray, List.length_cons, List.length_nil, Nat.reduceAdd, Nat.reduceSub, Array.replicate_succ, Array.replicate_zero, List.push_toArray, List.append_toArray, List.nil_append, List.cons_append]
  gi_wp2
  gi_loopw [3] (fun r wr => ∃ (pre : List (Fs s)) (p : Nat), r = .int .i64 p ∧ Hid (A = pre.map Subtype.val ++ frs s p) ∧ p * 64 ≤ s.size + 63 ∧ J pre wr ∧ Steps wr ∧ wr.cell? ⟨bs, 0, none⟩ = some (.string s)) (fun r _ => s.size - (intOf r).toNat)
  case atStart => exact ⟨[], 0, rfl, HA.out.symm, by omega, h0, hst, hbs⟩
  case round =>
    obtain ⟨pre, p, rfl, hfr, hp64, hJr, hsr, hbr⟩ := hrel
    by_cases hp : p * 64 < s.size
    · have hp' : (p : Int) * 64 < s.size := by omega
      have hm := frs_more hp
      obtain ⟨x, hx⟩ : ∃ x : Fs s, x.1 = rf s p := ⟨⟨rf s p, rf_size s p⟩, rfl⟩
      have hfr2 : Hid (A = pre.map Subtype.val ++ rf s p :: frs s (nx s p)) := by show _ = _; rw [← hm]; exact hfr.out
      have hlen : Hid (pre.length < A.length) := by
        show _ < _
        rw [hfr2.out]
        simp
      have hYx := hdR (hY.out pre x)
      rw [hx] at hYx
      have hnl : nx s p * 64 ≤ s.size + 63 := nx_le hp
      have hng := nx_gt s p
      have hmx : Hid (max ((p : Int) + 1) (rfN (rf s p) : Nat) = ((nx s p : Nat) : Int)) := nx_cast s p
      have hfr3 : Hid (A = (pre ++ [x]).map Subtype.val ++ frs s (nx s p)) := by show _ = _; rw [hfr2.out]; simp [hx]
      have HR : Hid (∀ w, Steps w → Calls Tryz.prog 58 #[.string s, .int .i64 p] w fun e w' => e = .returned (.agg #[.bool (rf s p).isSome, .int .i64 (rfK (rf s p) : Nat), .string (rfB (rf s p)), .int .i64 (rfN (rf s p) : Nat)]) ∧ Below w.heap.size w w') := fun w h => by rw [← rfV_eq]; exact implRead_any s p w hs h
      have HM : Hid (s.size - nx s p < s.size - p) := Nat.sub_lt_sub_left (Nat.lt_of_le_of_lt (Nat.le_mul_of_pos_right _ (by decide)) hp) hng
      clear hm hfr
      have hpf : Hid ((pre ++ [x]).map Subtype.val <+: A) := ⟨frs s (nx s p), by rw [hfr2.out]; simp [hx]⟩
      clear hx
      generalize rf s p = f at *
      generalize nx s p = q at *
      gi_wp2_with (refine ⟨trivial, ?_⟩; gi_at_call 58; refine (callsIn_wide.2 (HR.out _ hsr)).mono ?_; rintro e w1 ⟨rfl, hb1⟩; obtain ⟨fn, tmps, assign, body, hy, hR⟩ := hYx.out (w1.alloc (.cells #[.bool f.isSome, .int .i64 (rfK f : Nat), .string (rfB f), .int .i64 (rfN f : Nat)] 65)) (hJ pre wr _ none hJr (grown_of_below (hb1.alloc hb1.size _) none) (fun r e => by cases e)) hlen.out; rw [rfV_eq] at hy; have hf4 : (w1.alloc (.cells #[.bool f.isSome, .int .i64 (rfK f : Nat), .string (rfB f), .int .i64 (rfN f : Nat)] 65)).heap[w1.heap.size]? = some (.cells #[.bool f.isSome, .int .i64 (rfK f : Nat), .string (rfB f), .int .i64 (rfN f : Nat)] 65 (0, 0)) := World.heap_alloc_new _ _; have HF4 := hd hf4; obtain ⟨⟨x0, x1, x2, x3⟩, -⟩ := four_cells hf4; clear hf4)
      have hsW : Steps (w1.alloc (.cells #[.bool f.isSome, .int .i64 (rfK f : Nat), .string (rfB f), .int .i64 (rfN f : Nat)] 65)) := hsr.below (hb1.alloc hb1.size _)
      have hcW : (w1.alloc (.cells #[.bool f.isSome, .int .i64 (rfK f : Nat), .string (rfB f), .int .i64 (rfN f : Nat)] 65)).cell? ⟨bs, 0, none⟩ = some (.string s) := ((hb1.alloc hb1.size _).cell (p := ⟨bs, 0, none⟩) (cell_lt hbr)).trans hbr
      replace hsW := hd hsW
      replace hcW := hd hcW
      refine hR.mono ?_
      rintro e W3 (⟨rfl, hJ3, hk3⟩ | ⟨rfl, hJx3⟩)
      · have hF := hKp _ _ hk3
        have hs3 : Hid (Steps W3) := hsW.out.low hF.bel hg
        have hc3 : Hid (W3.cell? ⟨bs, 0, none⟩ = some (.string s)) := (cell_of_block hF.box).trans hcW.out
        have hf3 := hF.fr _ _ _ HF4.out
        obtain ⟨⟨y0, y1, y2, y3⟩, -⟩ := four_cells hf3
        clear x0 x1 x2 x3 hf3 hb1
        gi_wp2
        rw [hmx.out]
        refine ⟨⟨pre ++ [x], q, rfl, hfr3, hnl, hJ3, hs3.out, hc3.out⟩, ?_⟩
        simp only [intOf, Int.toNat_natCast]
        exact HM.out
      · gi_wp2
        refine bodyPost_ret (results_none rfl _ _ _) rfl ?_
        exact ⟨⟨_, rfl⟩, .inr ⟨_, hpf.out, hJx3⟩⟩
    · have hp' : ¬ (p : Int) * 64 < s.size := by omega
      have hAe : A = pre.map Subtype.val := by rw [hfr.out, frs_end hp, List.append_nil]
      subst hAe
      gi_wp2
      go_end0
      first | exact ⟨⟨_, rfl⟩, .inl hJr⟩ | exact ⟨⟨_, rfl⟩, .inl ⟨_, rfl, hJr⟩⟩


theorem frames2_stops (n : Nat) (hn : 1 ≤ n) (bs n₀ : Nat) (s : ByteArray) (hs : s.size ≤ 1048576) (w : World) (hbs : bs < w.heap.size)
    (hcs : w.cell? ⟨bs, 0, none⟩ = some (.string s)) (hst : Steps w) (hg : 0 < n₀) :
    SeqStopsK Fence.wide n Tryz.prog 57 #[.pointer (some ⟨bs, 0, none⟩)] (fun x : Fs s => #[rfV x.1]) (KF n₀ bs) (fun ys => ys.map Subtype.val = frs s 0) (fun pre => pre.map Subtype.val <+: frs s 0) (frs s 0).length w := fun l J Jx W hW hJ _ hY h0 =>
  frames2_in n hn l bs n₀ s hs J Jx W hJ (KF n₀ bs) (fun _ _ h => h) hY ((hW.cell (p := ⟨bs, 0, none⟩) hbs).trans hcs) (hst.below hW) hg h0
end Go.Proofs.YtogcpllpkdeehaaGreatDoor
namespace Go.Proofs.YtogcpllpkdeehaaGreatDoor
open Go.RowKit Go.Maps
set_option linter.unusedVariables false
set_option linter.unusedSimpArgs false

theorem cellsE_app (xs ys : List En) : cellsE (xs ++ ys) = cellsE xs ++ cellsE ys := by simp [cellsE]
theorem cellsE_one (xs : List En) : ∀ u ∈ cellsE xs, u.oneCell' = true := by
  intro u hu
  simp only [cellsE, List.mem_flatMap] at hu
  obtain ⟨e, -, he⟩ := hu
  simp at he
  rcases he with rfl | rfl | rfl | rfl <;> rfl
theorem LieE.cells {w : World} {b off : Nat} {xs : List En} (h : LieE w (some ⟨b, off, none⟩) xs) : ∀ j u, (cellsE xs)[j]? = some u → w.cell? ((⟨b, off, none⟩ : Addr).add j) = some u := by
  intro j u hu
  rw [Go.WideShapes.add_plain]
  have hj : j < (cellsE xs).length := (List.getElem?_eq_some_iff.1 hu).1
  rw [cellsE_len] at hj
  obtain ⟨b', off', e, -, c0, c1, c2, c3⟩ := h.at (i := j / 4) (by omega)
  cases e
  obtain ⟨a0, a1, a2, a3⟩ := cellsE_at xs (j / 4) (by omega)
  have hr : j = j / 4 * 4 ∨ j = j / 4 * 4 + 1 ∨ j = j / 4 * 4 + 2 ∨ j = j / 4 * 4 + 3 := by omega
  generalize j / 4 = q at *
  rcases hr with rfl | rfl | rfl | rfl
  · rw [a0] at hu
    cases hu
    exact c0
  · rw [a1] at hu
    cases hu
    exact c1
  · rw [a2] at hu
    cases hu
    exact c2
  · rw [a3] at hu
    cases hu
    exact c3
/-- Entries behind entries that the call owns. -/
theorem run_append_ents (w : World) (B : Nat) (v : Value) (n : Nat) (xs : List En) (hown : w.ownsRow B 39 4 v n (cellsE xs)) (a : Option Addr) (c : Nat) (ys : List En) (hy : LieE w a ys) (hb : xs.length + ys.length ≤ 2000000000) (hB : B ≤ w.heap.size) (ty : TypeId) :
    ∃ v' w', (Builtin.append_ #[23, 23] ty #[v, .slice a ys.length c]).run Tryz.prog w = .ok v' w' ∧ w'.ownsRow B 39 4 v' (xs ++ ys).length (cellsE (xs ++ ys)) ∧ w.grownBy w' v.ownBlock ∧ (v'.ownBlock = v.ownBlock ∨ v'.ownBlock = some w.heap.size) := by
  obtain ⟨i0, hi, hz0, hz1, hz2⟩ := info_parts iEntry_info
  have hn : n = xs.length := by have := hown.1; rw [cellsE_len] at this; omega
  subst hn
  by_cases hnil : ys = []
  · subst hnil
    have hS : Src Tryz.prog i0.size 23 (.slice a ([] : List En).length c) 0 [] w := by
      cases a with
      | none => exact Src.ofNil w Tryz.underlying23 c
      | some ad => exact Src.ofSlice w Tryz.underlying23 ad 0 c [] (by simp) (fun j u h => by simp at h) (fun u h => by cases h)
    obtain ⟨b, cap, rfl, hle⟩ : ∃ b cap, v = .slice b xs.length cap ∧ xs.length ≤ cap := by
      rcases hown.2 with ⟨rfl, h0⟩ | ⟨g, cap, cur, rfl, hg, hbk, hl, _⟩
      · exact ⟨none, 0, by rw [h0], by omega⟩
      · exact ⟨_, _, rfl, hl⟩
    refine ⟨_, _, run_append_nothing w _ _ ty _ i0 Tryz.underlying23 hi b xs.length cap hle _ hS, by simpa using hown, ⟨rfl, rfl, rfl, Nat.le_refl _, fun _ _ _ => rfl⟩, .inl rfl⟩
  · obtain ⟨b, off, rfl, -⟩ := hy.at (i := 0) (List.length_pos_iff.2 hnil)
    obtain ⟨v', w', h1, h2, h3, -, h5⟩ := run_append_own_at (P := Tryz.prog) w B 23 ty 39 i0 _ 4 48 Tryz.underlying23 hi hz0 hz1 hz2 rfl (by decide) v xs.length (cellsE xs) hown ⟨b, off, none⟩ ys.length c (cellsE ys) (cellsE_len ys) hy.cells (cellsE_one ys) (by unfold maxLen; omega) (by omega) hB
    exact ⟨v', w', h1, by rw [cellsE_app, List.length_append]; exact h2, h3, h5⟩
theorem wpListIn_append_ents {F : Fence} {nF : Nat} (w : World) {ops : Array Oper} {rest : List Oper} {o : Oper} {a : Act} {Q : Exit → Act → World → Prop} (hgd : o.guard = none) (s x : Operand)
    (ho : o.op = .call { callee := .builtin .append, args := #[s, x], argTypes := #[23, 23] })
    (B : Nat) (v : Value) (n : Nat) (xs : List En) (hs : a.eval s = v) (hown : w.ownsRow B 39 4 v n (cellsE xs)) (ad : Option Addr) (c : Nat) (ys : List En) (hx : a.eval x = .slice ad ys.length c) (hy : LieE w ad ys) (hb : xs.length + ys.length ≤ 2000000000) (hB : B ≤ w.heap.size)
    (h : ∀ v' w', w'.ownsRow B 39 4 v' (xs ++ ys).length (cellsE (xs ++ ys)) → w.grownBy w' v.ownBlock → (v'.ownBlock = v.ownBlock ∨ v'.ownBlock = some w.heap.size) → wpListIn F nF Tryz.prog ops Q rest (a.put o.dst v') w') :
    wpListIn F nF Tryz.prog ops Q (o :: rest) a w := by
  refine wpListIn_plain hgd fun K hK => ?_
  obtain ⟨v', w', hr, h2, h3, h5⟩ := run_append_ents w B v n xs hown ad c ys hy hb hB o.type
  unfold Oper.wpIn
  refine ⟨by simp [Oper.about, ho, resolve, Target.leads, Sem.run_pure], ?_⟩
  rw [Oper.semAt_plain F _ _ (by rw [ho]; intro c hc'; cases hc')]
  simp [execOp, ho, resolve, invoke, builtin, hs, hx, hr, Result.andThen]
  exact hK _ _ (h v' w' h2 h3 h5)
theorem LieE.grown {w w' : World} {a : Option Addr} {xs : List En} {row : Option Nat} (h : LieE w a xs) (hg : w.grownBy w' row) (hne : ∀ g o, row = some g → a ≠ some ⟨g, o, none⟩) : LieE w' a xs := by
  rcases h with rfl | ⟨b, off, rfl, hl, hc⟩
  · exact .inl rfl
  · have hb := hg.block b hl (fun e => hne b off e.symm rfl)
    refine .inr ⟨b, off, rfl, Nat.lt_of_lt_of_le hl hg.size, fun i hi => ?_⟩
    obtain ⟨a0, a1, a2, a3⟩ := hc i hi
    have key : ∀ o, w'.cell? ⟨b, o, none⟩ = w.cell? ⟨b, o, none⟩ := fun o => by simp only [World.cell?, hb]
    exact ⟨(key _).trans a0, (key _).trans a1, (key _).trans a2, (key _).trans a3⟩
end Go.Proofs.YtogcpllpkdeehaaGreatDoor
