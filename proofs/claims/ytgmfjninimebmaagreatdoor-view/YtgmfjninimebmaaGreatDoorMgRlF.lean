import Derived.Test.YtgmfjninimebmaaGreatDoorMgRfI
namespace Go.Proofs.YtgmfjninimebmaaGreatDoor
open Go.RowKit Go.Maps Go.Shelf
attribute [local go_sem] Oper.semAt_some
set_option linter.unusedVariables false
set_option linter.unusedSimpArgs false

/-- What a round keeps: what lies below n0, every Framed, and block bs. -/
structure KF (n0 bs : Nat) (W W' : World) : Prop where
  bel : Below n0 W W'
  fr : ∀ (k : Nat) (cs : Array Value) (fz : Nat × Nat), W.heap[k]? = some (.cells cs 101 fz) → W'.heap[k]? = some (.cells cs 101 fz)
  box : W'.heap[bs]? = W.heap[bs]?
theorem KF.refl (n0 bs : Nat) (W : World) : KF n0 bs W W := ⟨Below.refl _ _, fun _ _ _ h => h, rfl⟩
theorem KF.trans {n0 bs : Nat} {A B C : World} (h : KF n0 bs A B) (k : KF n0 bs B C) : KF n0 bs A C := ⟨h.bel.trans k.bel, fun i cs fz hi => k.fr i cs fz (h.fr i cs fz hi), k.box.trans h.box⟩
theorem KF.of {n0 bs : Nat} {W W' : World} (h : Below W.heap.size W W') (hn : n0 ≤ W.heap.size) (hb : bs < W.heap.size) : KF n0 bs W W' :=
  ⟨h.mono hn, fun k cs fz hk => (h.block k (heap_lt hk)).trans hk, h.block bs hb⟩
theorem KF.grown {n0 bs : Nat} {W W' : World} {row : Option Nat} (h : W.grownBy W' row) (h1 : ∀ k, row = some k → n0 ≤ k) (h2 : ∀ k cs fz, row = some k → W.heap[k]? ≠ some (.cells cs 101 fz)) (h3 : ∀ k, row = some k → k ≠ bs) (hn : n0 ≤ W.heap.size) (hb : bs < W.heap.size) : KF n0 bs W W' :=
  ⟨(Below.refl n0 W).grown h hn h1, fun k cs fz hk => (h.block k (heap_lt hk) (fun e => h2 k cs fz e.symm hk)).trans hk, h.block bs hb (fun e => h3 bs e.symm rfl)⟩
theorem KF.store {n0 bs b : Nat} {W : World} {cs : Array Value} {t : TypeId} {fz : Nat × Nat} (h : W.heap[b]? = some (.cells cs t fz)) (ht : t ≠ 101) (hb : n0 ≤ b) (hne : bs ≠ b) (v : Value) : KF n0 bs W (W.setCell ⟨b, 0, none⟩ v) :=
  ⟨(Below.refl n0 W).setCell (p := ⟨b, 0, none⟩) hb v, fun k cs' fz' hk => by
    have hne : k ≠ b := fun e => by subst e; rw [h] at hk; cases hk; exact ht rfl
    rw [Below.heap_setCell _ _ _ _ (by simpa using hne)]
    exact hk, Below.heap_setCell _ _ _ _ (by simpa using hne)⟩
theorem KF.put {n0 bs : Nat} {w : World} (hn : n0 ≤ w.heap.size) (hb : bs < w.heap.size) (W : World) (l : Nat) (o o' : Obj) (hl : w.heap.size ≤ l) (h : W.heap[l]? = some o) (hc : o.isCells = false) (hw : o.isWalk = false) : KF n0 bs W (W.putObj l o') :=
  ⟨belowK_b hn W l o o' hl h hc hw, fun k cs fz hk => by
    have hne : k ≠ l := fun e => by subst e; rw [h] at hk; cases hk; cases hc
    exact (World.putObj_heap_other hne).trans hk, World.putObj_heap_other (by omega)⟩
theorem grown_of_below {w w' : World} (h : Below w.heap.size w w') (row : Option Nat) : w.grownBy w' row := ⟨h.os, h.tape, h.output, h.size, fun k hk _ => h.block k hk⟩

theorem cell_lt {w : World} {a : Addr} {v : Value} (h : w.cell? a = some v) : a.block < w.heap.size := by
  by_cases hlt : a.block < w.heap.size
  · exact hlt
  · have hn : w.heap[a.block]? = none := Array.getElem?_eq_none (by omega)
    simp [World.cell?, hn] at h
theorem cell_of_block {W W' : World} {b o : Nat} (h : W'.heap[b]? = W.heap[b]?) : W'.cell? ⟨b, o, none⟩ = W.cell? ⟨b, o, none⟩ := by simp only [World.cell?, h]
theorem nx_cast (s : ByteArray) (p : Nat) : max ((p : Int) + 1) (rfN (rf s p) : Nat) = ((nx s p : Nat) : Int) := by
  unfold nx
  generalize rfN (rf s p) = m
  omega
theorem Steps.low {n0 : Nat} {w w' : World} (h : Steps w) (hb : Below n0 w w') (hg : 0 < n0) : Steps w' :=
  ⟨Nat.lt_of_lt_of_le h.1 hb.size, fun i hi => (hb.cell (p := ⟨0, i, none⟩) hg).trans (h.2 i hi)⟩

set_option maxRecDepth 100000 in
set_option maxHeartbeats 1000000 in
theorem frames1_in (n : Nat) (hn : 1 ≤ n) (l bs n₀ : Nat) (s : ByteArray) (hs : s.size ≤ 1048576) (J Jx : List Fr → World → Prop) (W0 : World) (hJ : AbidesFrom W0.heap.size J) (Kp : World → World → Prop) (hKp : ∀ A B, Kp A B → KF n₀ bs A B)
    (hY : ∀ pre (x : Fr) W, J pre W → pre.length < (frs s 0).length → YieldAt Fence.wide (n - 1) Tryz.prog l #[rfV x] W fun e W' =>
      (e = .returned (.bool true) ∧ J (pre ++ [x]) W' ∧ Kp W W') ∨ (e = .returned (.bool false) ∧ Jx (pre ++ [x]) W'))
    (hbs : W0.cell? ⟨bs, 0, none⟩ = some (.string s)) (hst : Steps W0) (hg : 0 < n₀) (h0 : J [] W0) :
    CallsIn Fence.wide n Tryz.prog 116 #[.func (.yield l) #[] #[], .pointer (some ⟨bs, 0, none⟩)] W0 fun e W' => (∃ v, e = .returned v) ∧
      ((∃ ys, ys = frs s 0 ∧ J ys W') ∨ (∃ pre, pre <+: frs s 0 ∧ Jx pre W')) := by
  obtain ⟨A, HA⟩ : ∃ A, Hid (frs s 0 = A) := ⟨_, rfl⟩
  rw [HA.out] at hY ⊢
  replace hY := hd hY
  refine callsIn_of_wp Tryz.func116 rfl trivial ?_ rfl
  simp only [Tryz.ntmps116, List.size_toArray, List.length_cons, List.length_nil, Nat.reduceAdd, Nat.reduceSub, Array.replicate_succ, Array.replicate_zero, List.push_toArray, List.append_toArray, List.nil_append, List.cons_append]
  gi_wp2
  gi_loopw [3] (fun r wr => ∃ (pre : List Fr) (p : Nat), r = .int .i64 p ∧ Hid (A = pre ++ frs s p) ∧ p * 64 ≤ s.size + 63 ∧ J pre wr ∧ Steps wr ∧ wr.cell? ⟨bs, 0, none⟩ = some (.string s)) (fun r _ => s.size - (intOf r).toNat)
  case atStart => exact ⟨[], 0, rfl, HA.out.symm, by omega, h0, hst, hbs⟩
  case round =>
    obtain ⟨pre, p, rfl, hfr, hp64, hJr, hsr, hbr⟩ := hrel
    by_cases hp : p * 64 < s.size
    · have hp' : (p : Int) * 64 < s.size := by omega
      have hm := frs_more hp
      have hfr2 : Hid (A = pre ++ rf s p :: frs s (nx s p)) := by show _ = _; rw [← hm]; exact hfr.out
      have hlen : Hid (pre.length < A.length) := by
        show _ < _
        rw [hfr2.out]
        simp
      have hnl : nx s p * 64 ≤ s.size + 63 := nx_le hp
      have hng := nx_gt s p
      have hmx : Hid (max ((p : Int) + 1) (rfN (rf s p) : Nat) = ((nx s p : Nat) : Int)) := nx_cast s p
      have hfr3 : Hid (A = (pre ++ [rf s p]) ++ frs s (nx s p)) := by show _ = _; rw [hfr2.out]; simp
      have HR : Hid (∀ w, Steps w → Calls Tryz.prog 45 #[.string s, .int .i64 p] w fun e w' => e = .returned (.agg #[.bool (rf s p).isSome, .int .i64 (rfK (rf s p) : Nat), .string (rfB (rf s p)), .int .i64 (rfN (rf s p) : Nat)]) ∧ Below w.heap.size w w') := fun w h => by rw [← rfV_eq]; exact implRead_any s p w hs h
      have HM : Hid (s.size - nx s p < s.size - p) := Nat.sub_lt_sub_left (Nat.lt_of_le_of_lt (Nat.le_mul_of_pos_right _ (by decide)) hp) hng
      clear hm hfr
      have hpf : Hid (pre ++ [rf s p] <+: A) := ⟨frs s (nx s p), by rw [hfr2.out]; simp⟩
      generalize rf s p = f at *
      generalize nx s p = q at *
      gi_wp2_with (refine ⟨trivial, ?_⟩; gi_at_call 45; refine (callsIn_wide.2 (HR.out _ hsr)).mono ?_; rintro e w1 ⟨rfl, hb1⟩; obtain ⟨fn, tmps, assign, body, hy, hR⟩ := hY.out pre f (w1.alloc (.cells #[.bool f.isSome, .int .i64 (rfK f : Nat), .string (rfB f), .int .i64 (rfN f : Nat)] 101)) (hJ pre wr _ none hJr (grown_of_below (hb1.alloc hb1.size _) none) (fun r e => by cases e)) hlen.out; rw [rfV_eq] at hy; have hf4 : (w1.alloc (.cells #[.bool f.isSome, .int .i64 (rfK f : Nat), .string (rfB f), .int .i64 (rfN f : Nat)] 101)).heap[w1.heap.size]? = some (.cells #[.bool f.isSome, .int .i64 (rfK f : Nat), .string (rfB f), .int .i64 (rfN f : Nat)] 101 (0, 0)) := World.heap_alloc_new _ _; have HF4 := hd hf4; obtain ⟨⟨x0, x1, x2, x3⟩, -⟩ := four_cells hf4; clear hf4)
      have hsW : Steps (w1.alloc (.cells #[.bool f.isSome, .int .i64 (rfK f : Nat), .string (rfB f), .int .i64 (rfN f : Nat)] 101)) := hsr.below (hb1.alloc hb1.size _)
      have hcW : (w1.alloc (.cells #[.bool f.isSome, .int .i64 (rfK f : Nat), .string (rfB f), .int .i64 (rfN f : Nat)] 101)).cell? ⟨bs, 0, none⟩ = some (.string s) := ((hb1.alloc hb1.size _).cell (p := ⟨bs, 0, none⟩) (cell_lt hbr)).trans hbr
      replace hsW := hd hsW
      replace hcW := hd hcW
      refine hR.mono ?_
      rintro e W3 (⟨rfl, hJ3, hk3⟩ | ⟨rfl, hJx3⟩)
      · have hF := hKp _ _ hk3
        have hs3 : Hid (Steps W3) := hsW.out.low hF.bel hg
        have hc3 : Hid (W3.cell? ⟨bs, 0, none⟩ = some (.string s)) := (cell_of_block hF.box).trans hcW.out
        have hf3 := hF.fr _ _ _ HF4.out
        obtain ⟨⟨y0, y1, y2, y3⟩, -⟩ := four_cells hf3
        clear x0 x1 x2 x3 hf3 hb1
        gi_wp2
        rw [hmx.out]
        refine ⟨⟨pre ++ [f], q, rfl, hfr3, hnl, hJ3, hs3.out, hc3.out⟩, ?_⟩
        simp only [intOf, Int.toNat_natCast]
        exact HM.out
      · gi_wp2
        refine bodyPost_ret (results_none rfl _ _ _) rfl ?_
        exact ⟨⟨_, rfl⟩, .inr ⟨_, hpf.out, hJx3⟩⟩
    · have hp' : ¬ (p : Int) * 64 < s.size := by omega
      have hAe : A = pre := by rw [hfr.out, frs_end hp, List.append_nil]
      subst hAe
      gi_wp2
      go_end0
      first | exact ⟨⟨_, rfl⟩, .inl hJr⟩ | exact ⟨⟨_, rfl⟩, .inl ⟨_, rfl, hJr⟩⟩

/-- frames: the function value that yields them. -/
theorem frames_in (F : Fence) (n : Nat) (h5 : F.fn 77) (hro : F.round = none) (s : ByteArray) (w : World) :
    CallsIn F n Tryz.prog 77 #[.string s] w fun e w' => e = .returned (.func (.func 116) #[] #[.pointer (some ⟨w.heap.size, 0, none⟩)]) ∧ w' = w.alloc (.cells #[.string s] 9) := by
  refine callsIn_of_wp Tryz.func77 rfl h5 ?_ hro
  simp only [Tryz.ntmps77, List.size_toArray, List.length_cons, List.length_nil, Nat.reduceAdd, Nat.reduceSub, Array.replicate_succ, Array.replicate_zero, List.push_toArray, List.append_toArray, List.nil_append, List.cons_append]
  gi_wp2
  go_ret
  exact ⟨rfl, rfl⟩

theorem frames_stops (n : Nat) (hn : 1 ≤ n) (bs n₀ : Nat) (s : ByteArray) (hs : s.size ≤ 1048576) (w : World) (hbs : bs < w.heap.size)
    (hcs : w.cell? ⟨bs, 0, none⟩ = some (.string s)) (hst : Steps w) (hg : 0 < n₀) :
    SeqStopsK Fence.wide n Tryz.prog 116 #[.pointer (some ⟨bs, 0, none⟩)] (fun x : Fr => #[rfV x]) (KF n₀ bs) (fun ys => ys = frs s 0) (fun pre => pre <+: frs s 0) (frs s 0).length w := fun l J Jx W hW hJ _ hY h0 =>
  frames1_in n hn l bs n₀ s hs J Jx W hJ (KF n₀ bs) (fun _ _ h => h) hY ((hW.cell (p := ⟨bs, 0, none⟩) hbs).trans hcs) (hst.below hW) hg h0
end Go.Proofs.YtgmfjninimebmaaGreatDoor
namespace Go.Proofs.YtgmfjninimebmaaGreatDoor
open Go.RowKit Go.Maps
set_option linter.unusedVariables false
set_option linter.unusedSimpArgs false

/-- The entries of payloads, and whether all can be decoded. -/
def esT (ps : List ByteArray) : List En := ps.flatMap decL
def okD (ps : List ByteArray) : Bool := ps.all fun p => (dec p).isSome
/-- The payloads of the blocks at the beginning. -/
def pl (s : ByteArray) : List ByteArray := (rlL s 66).map rfB
/-- What ReadTable gives. -/
def rtO (s : ByteArray) : Option (List En) := if okD (pl s) = true ∧ s.size ≠ 0 ∧ tabT (esT (pl s)) = s then some (esT (pl s)) else none
def rtL (s : ByteArray) : List En := (rtO s).getD []
theorem esT_snoc (ps : List ByteArray) (p : ByteArray) : esT (ps ++ [p]) = esT ps ++ decL p := by simp [esT]
theorem okD_snoc (ps : List ByteArray) (p : ByteArray) : okD (ps ++ [p]) = (okD ps && (dec p).isSome) := by simp [okD]
theorem esT_len : ∀ (ps : List ByteArray), (esT ps).length ≤ 1000 * ps.length
  | [] => by simp [esT]
  | p :: ps => by
    have := esT_len ps
    have := decL_len p
    simp only [esT, List.flatMap_cons, List.length_append, List.length_cons] at *
    omega
theorem pl_len (s : ByteArray) : (pl s).length ≤ s.size := by unfold pl; rw [List.length_map]; exact rl_len s 66
theorem rtO_none {s : ByteArray} (h : ¬ (okD (pl s) = true ∧ s.size ≠ 0 ∧ tabT (esT (pl s)) = s)) : rtO s = none := by unfold rtO; rw [if_neg h]
theorem rtO_some {s : ByteArray} (h1 : okD (pl s) = true) (h2 : s.size ≠ 0) (h3 : tabT (esT (pl s)) = s) : rtO s = some (esT (pl s)) := by unfold rtO; rw [if_pos ⟨h1, h2, h3⟩]
theorem rtL_none {s : ByteArray} (h : rtO s = none) : rtL s = [] := by unfold rtL; rw [h]; rfl
theorem rtL_some {s : ByteArray} {xs : List En} (h : rtO s = some xs) : rtL s = xs := by unfold rtL; rw [h]; rfl
theorem rt_len (s : ByteArray) : (rtL s).length ≤ 300000 := by
  by_cases h : okD (pl s) = true ∧ s.size ≠ 0 ∧ tabT (esT (pl s)) = s
  · rw [rtL_some (rtO_some h.1 h.2.1 h.2.2)]
    by_cases hl : (esT (pl s)).length ≤ 300000
    · exact hl
    · have e : tabT (esT (pl s)) = ⟨#[]⟩ := by unfold tabT; rw [if_neg (fun k => hl k.1)]
      rw [e] at h
      exact absurd (by rw [← h.2.2]; rfl) h.2.1
  · rw [rtL_none (rtO_none h)]
    simp
theorem okD_bad {ps qs : List ByteArray} {p : ByteArray} (h : (dec p).isSome = false) : okD (ps ++ p :: qs) = false := by simp [okD, h]
theorem dec_all {p : ByteArray} {xs : List En} (h : dec p = some xs) : xs.all entOk = true := by
  unfold dec at h
  cases hg : gv p 0 with
  | none => rw [hg] at h; cases h
  | some q =>
    obtain ⟨n, c⟩ := q
    rw [hg] at h
    obtain ⟨g1, g2, g3, g4⟩ := gv_some (A := 0) hg
    simp only at h
    split at h
    · cases hp : ps p n c with
      | none => rw [hp] at h; cases h
      | some r =>
        obtain ⟨ys, E⟩ := r
        rw [hp] at h
        simp only at h
        split at h
        · rename_i he
          cases h
          cases ha : xs.all entOk with
          | true => rfl
          | false =>
            have e0 : encT xs = ⟨#[]⟩ := by unfold encT; rw [if_neg]; rintro ⟨-, h2⟩; rw [ha] at h2; cases h2
            rw [e0] at he
            have h0 : p.size = 0 := by rw [← he]; rfl
            omega
        · cases h
    · cases h
theorem decL_all (p : ByteArray) : (decL p).all entOk = true := by
  unfold decL
  cases h : dec p with
  | none => rfl
  | some xs => exact dec_all h
theorem esT_all : ∀ (ps : List ByteArray), (esT ps).all entOk = true
  | [] => rfl
  | p :: ps => by
    have h1 := esT_all ps
    have h2 := decL_all p
    simp only [esT, List.flatMap_cons, List.all_append, Bool.and_eq_true] at *
    exact ⟨h2, h1⟩
theorem fits_all {xs : List En} (h : xs.all entOk = true) : FitsE xs := fun e he => by
  have h1 := (entOk_iff _).1 (List.all_eq_true.1 h e he)
  unfold maxLen
  omega
end Go.Proofs.YtgmfjninimebmaaGreatDoor
namespace Go.Proofs.YtgmfjninimebmaaGreatDoor
open Go.RowKit Go.Maps Go.Shelf
attribute [local go_sem] Oper.semAt_some
set_option linter.unusedVariables false
set_option linter.unusedSimpArgs false

theorem hdR {p : Prop} (h : p) : Hid p := h
theorem rf_size (s : ByteArray) (p : Nat) : (rfB (rf s p)).size ≤ s.size := by
  cases h : rf s p with
  | none => exact Nat.zero_le _
  | some q =>
    obtain ⟨k, l, n⟩ := q
    show l.toArray.size ≤ _
    rw [List.size_toArray]
    unfold rf rfAt at h
    simp only [Int.toNat_natCast] at h
    split at h
    · split at h
      · rename_i h1 h2
        obtain ⟨-, -, h3, -⟩ := h2
        simp only [Option.some.injEq, Prod.mk.injEq] at h
        obtain ⟨-, rfl, -⟩ := h
        have e : s.data.toList.length = s.size := len_data s
        rw [e] at h3
        rw [pay_len]
        unfold pagesN at h3
        omega
      · cases h
    · cases h
/-- What is found in s is no longer than s. -/
abbrev Fs (s : ByteArray) := { x : Fr // (rfB x).size ≤ s.size }
set_option maxRecDepth 100000 in
set_option maxHeartbeats 1000000 in
theorem frames2_in (n : Nat) (hn : 1 ≤ n) (l bs n₀ : Nat) (s : ByteArray) (hs : s.size ≤ 1048576) (J Jx : List (Fs s) → World → Prop) (W0 : World) (hJ : AbidesFrom W0.heap.size J) (Kp : World → World → Prop) (hKp : ∀ A B, Kp A B → KF n₀ bs A B)
    (hY : ∀ pre (x : Fs s) W, J pre W → pre.length < (frs s 0).length → YieldAt Fence.wide (n - 1) Tryz.prog l #[rfV x.1] W fun e W' =>
      (e = .returned (.bool true) ∧ J (pre ++ [x]) W' ∧ Kp W W') ∨ (e = .returned (.bool false) ∧ Jx (pre ++ [x]) W'))
    (hbs : W0.cell? ⟨bs, 0, none⟩ = some (.string s)) (hst : Steps W0) (hg : 0 < n₀) (h0 : J [] W0) :
    CallsIn Fence.wide n Tryz.prog 116 #[.func (.yield l) #[] #[], .pointer (some ⟨bs, 0, none⟩)] W0 fun e W' => (∃ v, e = .returned v) ∧
      ((∃ ys : List (Fs s), ys.map Subtype.val = frs s 0 ∧ J ys W') ∨ (∃ pre : List (Fs s), pre.map Subtype.val <+: frs s 0 ∧ Jx pre W')) := by
  obtain ⟨A, HA⟩ : ∃ A, Hid (frs s 0 = A) := ⟨_, rfl⟩
  rw [HA.out] at hY ⊢
  replace hY := hd hY
  refine callsIn_of_wp Tryz.func116 rfl trivial ?_ rfl
  simp only [Tryz.ntmps116, List.size_toArray, List.length_cons, List.length_nil, Nat.reduceAdd, Nat.reduceSub, Array.replicate_succ, Array.replicate_zero, List.push_toArray, List.append_toArray, List.nil_append, List.cons_append]
  gi_wp2
  gi_loopw [3] (fun r wr => ∃ (pre : List (Fs s)) (p : Nat), r = .int .i64 p ∧ Hid (A = pre.map Subtype.val ++ frs s p) ∧ p * 64 ≤ s.size + 63 ∧ J pre wr ∧ Steps wr ∧ wr.cell? ⟨bs, 0, none⟩ = some (.string s)) (fun r _ => s.size - (intOf r).toNat)
  case atStart => exact ⟨[], 0, rfl, HA.out.symm, by omega, h0, hst, hbs⟩
  case round =>
    obtain ⟨pre, p, rfl, hfr, hp64, hJr, hsr, hbr⟩ := hrel
    by_cases hp : p * 64 < s.size
    · have hp' : (p : Int) * 64 < s.size := by omega
      have hm := frs_more hp
      obtain ⟨x, hx⟩ : ∃ x : Fs s, x.1 = rf s p := ⟨⟨rf s p, rf_size s p⟩, rfl⟩
      have hfr2 : Hid (A = pre.map Subtype.val ++ rf s p :: frs s (nx s p)) := by show _ = _; rw [← hm]; exact hfr.out
      have hlen : Hid (pre.length < A.length) := by
        show _ < _
        rw [hfr2.out]
        simp
      have hYx := hdR (hY.out pre x)
      rw [hx] at hYx
      have hnl : nx s p * 64 ≤ s.size + 63 := nx_le hp
      have hng := nx_gt s p
      have hmx : Hid (max ((p : Int) + 1) (rfN (rf s p) : Nat) = ((nx s p : Nat) : Int)) := nx_cast s p
      have hfr3 : Hid (A = (pre ++ [x]).map Subtype.val ++ frs s (nx s p)) := by show _ = _; rw [hfr2.out]; simp [hx]
      have HR : Hid (∀ w, Steps w → Calls Tryz.prog 45 #[.string s, .int .i64 p] w fun e w' => e = .returned (.agg #[.bool (rf s p).isSome, .int .i64 (rfK (rf s p) : Nat), .string (rfB (rf s p)), .int .i64 (rfN (rf s p) : Nat)]) ∧ Below w.heap.size w w') := fun w h => by rw [← rfV_eq]; exact implRead_any s p w hs h
      have HM : Hid (s.size - nx s p < s.size - p) := Nat.sub_lt_sub_left (Nat.lt_of_le_of_lt (Nat.le_mul_of_pos_right _ (by decide)) hp) hng
      clear hm hfr
      have hpf : Hid ((pre ++ [x]).map Subtype.val <+: A) := ⟨frs s (nx s p), by rw [hfr2.out]; simp [hx]⟩
      clear hx
      generalize rf s p = f at *
      generalize nx s p = q at *
      gi_wp2_with (refine ⟨trivial, ?_⟩; gi_at_call 45; refine (callsIn_wide.2 (HR.out _ hsr)).mono ?_; rintro e w1 ⟨rfl, hb1⟩; obtain ⟨fn, tmps, assign, body, hy, hR⟩ := hYx.out (w1.alloc (.cells #[.bool f.isSome, .int .i64 (rfK f : Nat), .string (rfB f), .int .i64 (rfN f : Nat)] 101)) (hJ pre wr _ none hJr (grown_of_below (hb1.alloc hb1.size _) none) (fun r e => by cases e)) hlen.out; rw [rfV_eq] at hy; have hf4 : (w1.alloc (.cells #[.bool f.isSome, .int .i64 (rfK f : Nat), .string (rfB f), .int .i64 (rfN f : Nat)] 101)).heap[w1.heap.size]? = some (.cells #[.bool f.isSome, .int .i64 (rfK f : Nat), .string (rfB f), .int .i64 (rfN f : Nat)] 101 (0, 0)) := World.heap_alloc_new _ _; have HF4 := hd hf4; obtain ⟨⟨x0, x1, x2, x3⟩, -⟩ := four_cells hf4; clear hf4)
      have hsW : Steps (w1.alloc (.cells #[.bool f.isSome, .int .i64 (rfK f : Nat), .string (rfB f), .int .i64 (rfN f : Nat)] 101)) := hsr.below (hb1.alloc hb1.size _)
      have hcW : (w1.alloc (.cells #[.bool f.isSome, .int .i64 (rfK f : Nat), .string (rfB f), .int .i64 (rfN f : Nat)] 101)).cell? ⟨bs, 0, none⟩ = some (.string s) := ((hb1.alloc hb1.size _).cell (p := ⟨bs, 0, none⟩) (cell_lt hbr)).trans hbr
      replace hsW := hd hsW
      replace hcW := hd hcW
      refine hR.mono ?_
      rintro e W3 (⟨rfl, hJ3, hk3⟩ | ⟨rfl, hJx3⟩)
      · have hF := hKp _ _ hk3
        have hs3 : Hid (Steps W3) := hsW.out.low hF.bel hg
        have hc3 : Hid (W3.cell? ⟨bs, 0, none⟩ = some (.string s)) := (cell_of_block hF.box).trans hcW.out
        have hf3 := hF.fr _ _ _ HF4.out
        obtain ⟨⟨y0, y1, y2, y3⟩, -⟩ := four_cells hf3
        clear x0 x1 x2 x3 hf3 hb1
        gi_wp2
        rw [hmx.out]
        refine ⟨⟨pre ++ [x], q, rfl, hfr3, hnl, hJ3, hs3.out, hc3.out⟩, ?_⟩
        simp only [intOf, Int.toNat_natCast]
        exact HM.out
      · gi_wp2
        refine bodyPost_ret (results_none rfl _ _ _) rfl ?_
        exact ⟨⟨_, rfl⟩, .inr ⟨_, hpf.out, hJx3⟩⟩
    · have hp' : ¬ (p : Int) * 64 < s.size := by omega
      have hAe : A = pre.map Subtype.val := by rw [hfr.out, frs_end hp, List.append_nil]
      subst hAe
      gi_wp2
      go_end0
      first | exact ⟨⟨_, rfl⟩, .inl hJr⟩ | exact ⟨⟨_, rfl⟩, .inl ⟨_, rfl, hJr⟩⟩


theorem frames2_stops (n : Nat) (hn : 1 ≤ n) (bs n₀ : Nat) (s : ByteArray) (hs : s.size ≤ 1048576) (w : World) (hbs : bs < w.heap.size)
    (hcs : w.cell? ⟨bs, 0, none⟩ = some (.string s)) (hst : Steps w) (hg : 0 < n₀) :
    SeqStopsK Fence.wide n Tryz.prog 116 #[.pointer (some ⟨bs, 0, none⟩)] (fun x : Fs s => #[rfV x.1]) (KF n₀ bs) (fun ys => ys.map Subtype.val = frs s 0) (fun pre => pre.map Subtype.val <+: frs s 0) (frs s 0).length w := fun l J Jx W hW hJ _ hY h0 =>
  frames2_in n hn l bs n₀ s hs J Jx W hJ (KF n₀ bs) (fun _ _ h => h) hY ((hW.cell (p := ⟨bs, 0, none⟩) hbs).trans hcs) (hst.below hW) hg h0
end Go.Proofs.YtgmfjninimebmaaGreatDoor
