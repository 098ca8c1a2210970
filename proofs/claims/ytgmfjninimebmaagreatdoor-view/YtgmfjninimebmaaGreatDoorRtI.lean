import Derived.Test.YtgmfjninimebmaaGreatDoorRtS

import Derived.Maps.OwnIn
namespace Go.Proofs.YtgmfjninimebmaaGreatDoor
open Go.RowKit Go.Maps Go.Shelf
attribute [local go_sem] Oper.semAt_some
set_option linter.unusedVariables false
set_option linter.unusedSimpArgs false

/-- The payloads of frames. -/
def pay1 {s : ByteArray} (pre : List (Fs s)) : List ByteArray := pre.map fun x => rfB x.1
theorem pay1_snoc {s : ByteArray} (pre : List (Fs s)) (x : Fs s) : pay1 (pre ++ [x]) = pay1 pre ++ [rfB x.1] := by simp [pay1]
theorem pay1_val {s : ByteArray} (pre : List (Fs s)) : pay1 pre = (pre.map Subtype.val).map rfB := by simp [pay1]
/-- Blocks that can be decoded. -/
def okF {s : ByteArray} (pre : List (Fs s)) : Prop := ∀ x ∈ pre, gd 66 x.1 = true ∧ (dec (rfB x.1)).isSome = true
theorem okF_snoc {s : ByteArray} {pre : List (Fs s)} {x : Fs s} (h : okF pre) (h1 : gd 66 x.1 = true) (h2 : (dec (rfB x.1)).isSome = true) : okF (pre ++ [x]) := fun y hy => by
  rcases List.mem_append.1 hy with h | h
  · exact ‹okF pre› y h
  · rw [List.mem_singleton.1 h]; exact ⟨h1, h2⟩
theorem okF_okD {s : ByteArray} {pre : List (Fs s)} (h : okF pre) : okD (pay1 pre) = true := by
  refine List.all_eq_true.2 fun p hp => ?_
  obtain ⟨x, hx, rfl⟩ := List.mem_map.1 hp
  exact (h x hx).2
theorem okF_gd {s : ByteArray} {pre : List (Fs s)} (h : okF pre) : ∀ f ∈ pre.map Subtype.val, gd 66 f = true := fun f hf => by
  obtain ⟨x, hx, rfl⟩ := List.mem_map.1 hf
  exact (h x hx).1
theorem pl_done {s : ByteArray} {ys : List (Fs s)} (h : ys.map Subtype.val = frs s 0) (ho : okF ys) : pl s = pay1 ys := by
  unfold pl
  rw [rl_done h.symm (okF_gd ho), pay1_val]
theorem pl_stop {s : ByteArray} {q : List (Fs s)} {f : Fs s} (h : (q ++ [f]).map Subtype.val <+: frs s 0) (ho : okF q) (hf : gd 66 f.1 = false) : pl s = pay1 q := by
  obtain ⟨rest, hr⟩ := h
  unfold pl
  rw [rl_stop (pre := q.map Subtype.val) (f := f.1) (rest := rest) (by rw [← hr]; simp) (okF_gd ho) hf, pay1_val]
theorem pl_bad {s : ByteArray} {q : List (Fs s)} {f : Fs s} (h : (q ++ [f]).map Subtype.val <+: frs s 0) (ho : okF q) (hf : gd 66 f.1 = true) (hd : (dec (rfB f.1)).isSome = false) : okD (pl s) = false := by
  obtain ⟨rest, hr⟩ := h
  unfold pl rlL
  rw [← hr, show (q ++ [f]).map Subtype.val ++ rest = q.map Subtype.val ++ f.1 :: rest by simp, List.takeWhile_append_of_pos (okF_gd ho), List.takeWhile_cons, hf, if_pos rfl, List.map_append, List.map_cons]
  exact okD_bad hd
theorem owns_neT {W : World} {B n : Nat} {v : Value} {xs : List Value} (h : W.ownsRow B 50 4 v n xs) {b : Nat} {cs : Array Value} {t : TypeId} {fz : Nat × Nat} (hb : W.heap[b]? = some (.cells cs t fz)) (ht : t ≠ 50) : v.ownBlock ≠ some b := by
  obtain ⟨-, h2⟩ := h
  intro e
  rcases h2 with ⟨rfl, -⟩ | ⟨g, cap, cur, rfl, hg, hbk, -⟩
  · cases e
  · cases e
    rw [hb] at hbk
    cases hbk
    exact ht rfl

/-- The boxes of ReadTable. -/
structure RtB (n0 : Nat) (s : ByteArray) (pre : List (Fs s)) (v : Value) (W : World) : Prop where
  h1 : W.heap[n0]? = some (.cells #[.slice none 0 0] 26 (0, 0))
  h2 : W.heap[n0 + 1]? = some (.cells #[.bool false] 4 (0, 0))
  hv : W.heap[n0 + 3]? = some (.cells #[v] 26 (0, 0))
  hs : W.heap[n0 + 4]? = some (.cells #[.string s] 9 (0, 0))
  row : W.ownsRow n0 50 4 v (esT (pay1 pre)).length (cellsE (esT (pay1 pre)))
theorem RtB.blocks {n0 : Nat} {s : ByteArray} {pre : List (Fs s)} {v : Value} {W W' : World} (h : RtB n0 s pre v W) (hb : ∀ (g : Nat) (o : Obj), W.heap[g]? = some o → o.isCells = true → W'.heap[g]? = some o) : RtB n0 s pre v W' := by
  refine ⟨hb _ _ h.h1 rfl, hb _ _ h.h2 rfl, hb _ _ h.hv rfl, hb _ _ h.hs rfl, ?_⟩
  obtain ⟨k1, k2⟩ := h.row
  refine ⟨k1, ?_⟩
  rcases k2 with k2 | ⟨g, cap, cur, rfl, hg, hbk, hrest⟩
  · exact .inl k2
  · exact .inr ⟨g, cap, cur, rfl, hg, hb g _ hbk rfl, hrest⟩
theorem RtB.below {n0 : Nat} {s : ByteArray} {pre : List (Fs s)} {v : Value} {W W' : World} (h : RtB n0 s pre v W) (hb : Below W.heap.size W W') : RtB n0 s pre v W' :=
  h.blocks (fun g o hg _ => (hb.block g (heap_lt hg)).trans hg)
/-- Behind an append and the store of its row. -/
theorem RtB.app {n0 : Nat} {s : ByteArray} {pre : List (Fs s)} {x : Fs s} {v v' : Value} {W w1 w2 : World} (h : RtB n0 s pre v W) (hb : Below W.heap.size W w1) (hg : w1.grownBy w2 v.ownBlock) (hrow : w2.ownsRow n0 50 4 v' (esT (pay1 (pre ++ [x]))).length (cellsE (esT (pay1 (pre ++ [x]))))) (hn : n0 ≤ W.heap.size) :
    RtB n0 s (pre ++ [x]) v' (w2.setCell ⟨n0 + 3, 0, none⟩ v') ∧ KF n0 (n0 + 4) W (w2.setCell ⟨n0 + 3, 0, none⟩ v') ∧ KeepsOthers W (w2.setCell ⟨n0 + 3, 0, none⟩ v') := by
  have k := h.below hb
  have hn1 : n0 ≤ w1.heap.size := Nat.le_trans hn hb.size
  have hblk : ∀ {b : Nat} {cs : Array Value} {t : TypeId}, w1.heap[b]? = some (.cells cs t (0, 0)) → t ≠ 50 → w2.heap[b]? = some (.cells cs t (0, 0)) := fun {b cs t} hk ht => (hg.block b (heap_lt hk) (fun e => owns_neT k.row hk ht e.symm)).trans hk
  have e1 := hblk k.h1 (by decide)
  have e2 := hblk k.h2 (by decide)
  have e3 := hblk k.hv (by decide)
  have e4 := hblk k.hs (by decide)
  have hset : ∀ {b : Nat} {o : Obj}, w2.heap[b]? = some o → b ≠ n0 + 3 → (w2.setCell ⟨n0 + 3, 0, none⟩ v').heap[b]? = some o := fun {b o} hk hne => (Below.heap_setCell _ _ _ _ (by simpa using hne)).trans hk
  have hrow2 : (w2.setCell ⟨n0 + 3, 0, none⟩ v').ownsRow n0 50 4 v' (esT (pay1 (pre ++ [x]))).length (cellsE (esT (pay1 (pre ++ [x])))) := by
    have hne := owns_neT hrow e3 (by decide)
    obtain ⟨k1, k2⟩ := hrow
    refine ⟨k1, ?_⟩
    rcases k2 with k2 | ⟨g, cap, cur, rfl, hg', hbk, hrest⟩
    · exact .inl k2
    · exact .inr ⟨g, cap, cur, rfl, hg', hset hbk (fun e => hne (by rw [e]; rfl)), hrest⟩
  refine ⟨⟨hset e1 (by omega), hset e2 (by omega), by rw [heap_setCell_same _ _ _ _ _ _ e3]; rfl, hset e4 (by omega), hrow2⟩, ((KF.of hb hn (heap_lt h.hs)).trans (KF.grown hg (owns_base k.row) (fun g cs fz e hk => ?_) (fun g e e2 => owns_neT k.row k.hs (by decide) (by rw [e, e2])) hn1 (heap_lt k.hs))).trans (KF.store e3 (by decide) (by omega) (by omega) v'), ((others_of hb).trans (KeepsOthers.of_grownBy hg (fun j o e hj => ?_))).trans (KeepsOthers.setCell _ _ _)⟩
  · exact owns_neT k.row hk (by decide) e
  · obtain ⟨-, k2⟩ := k.row
    rcases k2 with ⟨rfl, -⟩ | ⟨g, cap, cur, rfl, hg', hbk, -⟩
    · cases e
    · cases e
      rw [hbk] at hj
      cases hj
      rfl
theorem rtB_new (w : World) (s : ByteArray) : RtB w.heap.size s [] (.slice (some ⟨w.heap.size + 1 + 1, 0, none⟩) 0 0) (((((w.alloc (.cells #[.slice none 0 0] 26)).alloc (.cells #[.bool false] 4)).alloc (.cells #[] 50)).alloc (.cells #[.slice (some ⟨w.heap.size + 1 + 1, 0, none⟩) 0 0] 26)).alloc (.cells #[.string s] 9)) := by
  refine ⟨?_, ?_, ?_, alloc_at _ _ _ (by simp), ⟨rfl, .inr ⟨w.heap.size + 1 + 1, 0, #[], rfl, by omega, ?_, Nat.le_refl _, Nat.zero_le _, rfl, rfl⟩⟩⟩
  · rw [Below.heap_alloc _ _ _ (by simp <;> omega), Below.heap_alloc _ _ _ (by simp <;> omega), Below.heap_alloc _ _ _ (by simp <;> omega), Below.heap_alloc _ _ _ (by simp)]
    exact alloc_at _ _ _ rfl
  · rw [Below.heap_alloc _ _ _ (by simp <;> omega), Below.heap_alloc _ _ _ (by simp <;> omega), Below.heap_alloc _ _ _ (by simp)]
    exact alloc_at _ _ _ (by simp)
  · rw [Below.heap_alloc _ _ _ (by simp)]
    exact alloc_at _ _ _ (by simp)
  · rw [Below.heap_alloc _ _ _ (by simp <;> omega), Below.heap_alloc _ _ _ (by simp)]
    exact alloc_at _ _ _ (by simp)
theorem ResE.blocks {W W' : World} {base : Nat} {a : Option Addr} {xs : List En} (h : ResE W base a xs) (hb : ∀ (g : Nat) (o : Obj), W.heap[g]? = some o → o.isCells = true → W'.heap[g]? = some o) : ResE W' base a xs := by
  rcases h with h | ⟨g, rfl, hg, cs, h1, h2, h3⟩
  · exact .inl h
  · exact .inr ⟨g, rfl, hg, cs, hb g _ h1 rfl, h2, h3⟩
theorem ResE.set {W : World} {base b : Nat} {a : Option Addr} {xs : List En} (h : ResE W base a xs) {cs : Array Value} {t : TypeId} {fz : Nat × Nat} (hb : W.heap[b]? = some (.cells cs t fz)) (ht : t ≠ 50) (u : Value) : ResE (W.setCell ⟨b, 0, none⟩ u) base a xs := by
  rcases h with h | ⟨g, rfl, hg, cs', h1, h2, h3⟩
  · exact .inl h
  · have hne : g ≠ b := fun e => by subst e; rw [hb] at h1; cases h1; exact ht rfl
    exact .inr ⟨g, rfl, hg, cs', (Below.heap_setCell _ _ _ _ (by simpa using hne)).trans h1, h2, h3⟩
def RtJ (n0 : Nat) (s : ByteArray) (w : World) (pre : List (Fs s)) (W : World) : Prop := ((∃ v, RtB n0 s pre v W) ∧ okF pre) ∧ Below n0 w W
def RtX (n0 : Nat) (s : ByteArray) (w : World) (cd : Code) (pre : List (Fs s)) (W : World) : Prop :=
  (∃ q f, pre = q ++ [f] ∧ okF q ∧ ((cd = .exit 0 ∧ gd 66 f.1 = false ∧ ∃ v, RtB n0 s q v W) ∨
    (cd = .ret ∧ gd 66 f.1 = true ∧ (dec (rfB f.1)).isSome = false ∧ ∃ g, W.heap[n0]? = some (.cells #[.slice (some ⟨g, 0, none⟩) 0 0] 26 (0, 0)) ∧ W.heap[n0 + 1]? = some (.cells #[.bool false] 4 (0, 0))))) ∧ Below n0 w W
theorem rtJ_own (n0 : Nat) (s : ByteArray) (B : Nat) (w : World) (hn : n0 ≤ w.heap.size) (hB : n0 ≤ B) : OwnFrom B (RtJ n0 s w) :=
  OwnFrom.and (Own.from (fun _ A B' row hs hg hr => ⟨hs.1.imp fun v h => h.blocks (kept_ofB hg hr), hs.2⟩) _) (ownFrom_below hn hB)
theorem rtX_own (n0 : Nat) (s : ByteArray) (B : Nat) (w : World) (hn : n0 ≤ w.heap.size) (hB : n0 ≤ B) (cd : Code) : OwnFrom B (RtX n0 s w cd) := by
  refine OwnFrom.and (Own.from (fun _ A B' row hs hg hr => ?_) _) (ownFrom_below hn hB)
  obtain ⟨q, f, h1, h2, h3⟩ := hs
  refine ⟨q, f, h1, h2, ?_⟩
  rcases h3 with ⟨rfl, h4, h5⟩ | ⟨rfl, h4, h5, g, h6, h7⟩
  · exact .inl ⟨rfl, h4, h5.imp fun v h => h.blocks (kept_ofB hg hr)⟩
  · exact .inr ⟨rfl, h4, h5, g, kept_ofB hg hr _ _ h6 rfl, kept_ofB hg hr _ _ h7 rfl⟩

set_option maxRecDepth 100000 in
set_option maxHeartbeats 2000000 in
theorem implRT_any (s : ByteArray) (w : World) (hs : s.size ≤ 1048576) (ht : Steps w) :
    Calls Tryz.prog 47 #[.string s] w fun e w' => ∃ a cap, e = .returned (.tuple #[.slice a (rtL s).length cap, .bool (rtO s).isSome]) ∧ ResE w' w.heap.size a (rtL s) ∧ Below w.heap.size w w' := by
  have HN : Hid (rtO s = none → rtL s = []) := fun h => rtL_none h
  have HE0 : Hid (s.size = 0 → rtO s = none) := fun h => rtO_none (by rintro ⟨-, h2, -⟩; exact h2 h)
  have HE1 : Hid (∀ P, pl s = P → tabT (esT P) ≠ s → rtO s = none) := fun P hP h => rtO_none (by rintro ⟨-, -, h2⟩; rw [hP] at h2; exact h h2)
  have HE2 : Hid (∀ P, pl s = P → okD P = true → s.size ≠ 0 → tabT (esT P) = s → rtO s = some (esT P) ∧ rtL s = esT P) := fun P hP h1 h2 h3 => by subst hP; exact ⟨rtO_some h1 h2 h3, rtL_some (rtO_some h1 h2 h3)⟩
  have HE3 : Hid (okD (pl s) = false → rtO s = none) := fun h => rtO_none (by rintro ⟨h2, -⟩; rw [h] at h2; cases h2)
  have hFL := frs_len s s.size 0 (by omega)
  generalize rtO s = O at *
  generalize rtL s = L at *
  have hglt := ht.1
  have HST := hdB ht
  clear ht
  refine (callsIn_wide (n := 3)).1 ?_
  refine callsIn_of_wp_marks Tryz.func47 rfl trivial ?_ rfl
  simp only [Tryz.ntmps47, List.size_toArray, List.length_cons, List.length_nil, Nat.reduceAdd, Nat.reduceSub, Array.replicate_succ, Array.replicate_zero, List.push_toArray, List.append_toArray, List.nil_append, List.cons_append]
  gi_wp2_with (refine ⟨trivial, ?_⟩; gi_at_call 77; refine (frames_in _ _ trivial rfl _ _).mono ?_; rintro e w' ⟨rfl, rfl⟩)
  have hnew := rtB_new w s
  have hsz : (((((w.alloc (.cells #[.slice none 0 0] 26)).alloc (.cells #[.bool false] 4)).alloc (.cells #[] 50)).alloc (.cells #[.slice (some ⟨w.heap.size + 1 + 1, 0, none⟩) 0 0] 26)).alloc (.cells #[.string s] 9)).heap.size = w.heap.size + 5 := by simp
  have hcs : (((((w.alloc (.cells #[.slice none 0 0] 26)).alloc (.cells #[.bool false] 4)).alloc (.cells #[] 50)).alloc (.cells #[.slice (some ⟨w.heap.size + 1 + 1, 0, none⟩) 0 0] 26)).alloc (.cells #[.string s] 9)).cell? ⟨w.heap.size + 4, 0, none⟩ = some (.string s) := (one_cell (t := 9) (alloc_at _ _ _ (by simp))).1
  have hbel : Below w.heap.size w (((((w.alloc (.cells #[.slice none 0 0] 26)).alloc (.cells #[.bool false] 4)).alloc (.cells #[] 50)).alloc (.cells #[.slice (some ⟨w.heap.size + 1 + 1, 0, none⟩) 0 0] 26)).alloc (.cells #[.string s] 9)) := (((((Below.refl _ _).alloc (by simp) _).alloc (by simp <;> omega) _).alloc (by simp <;> omega) _).alloc (by simp <;> omega) _).alloc (by simp <;> omega) _
  generalize (((((w.alloc (.cells #[.slice none 0 0] 26)).alloc (.cells #[.bool false] 4)).alloc (.cells #[] 50)).alloc (.cells #[.slice (some ⟨w.heap.size + 1 + 1, 0, none⟩) 0 0] 26)).alloc (.cells #[.string s] 9)) = W0 at *
  refine wpIn_rangeFunc_ownH rfl (by omega) (gf := 116) (lb := #[.pointer (some ⟨w.heap.size + 4, 0, none⟩)]) rfl trivial (enters_of Tryz.func116 (by kernel_rfl) rfl)
    (frames2_stops _ (by omega) (w.heap.size + 4) w.heap.size s hs W0 (by omega) hcs (HST.out.below hbel) hglt) KF.trans (KF.put (by omega) (by omega)) (Below.refl _ _) (fun _ => rfl)
    (RtJ w.heap.size s w) (RtX w.heap.size s w) (rtJ_own _ _ _ _ (Nat.le_refl _) (by omega)) (rtX_own _ _ _ _ (Nat.le_refl _) (by omega)) ⟨⟨⟨_, hnew⟩, fun x hx => by cases hx⟩, hbel⟩
    (fun x a' W => ∃ Bx, W.heap[Bx]? = some (.cells #[.bool x.1.isSome, .int .i64 (rfK x.1 : Nat), .string (rfB x.1), .int .i64 (rfN x.1 : Nat)] 101 (0, 0)) ∧ a' = { tmps := #[.string s, undef, .pointer (some ⟨w.heap.size, 0, none⟩), .pointer (some ⟨w.heap.size + 1, 0, none⟩), .pointer (some ⟨w.heap.size + 1 + 1 + 1, 0, none⟩), .pointer (some ⟨Bx, 0, none⟩), undef, undef, .slice (some ⟨w.heap.size + 1 + 1, 0, none⟩) 0 0, .string s, .func (.func 116) #[] #[.pointer (some ⟨w.heap.size + 1 + 1 + 1 + 1, 0, none⟩)], .agg #[.bool x.1.isSome, .int .i64 (rfK x.1 : Nat), .string (rfB x.1), .int .i64 (rfN x.1 : Nat)], undef, undef, undef, undef, undef, undef, undef, undef, undef, undef, undef, undef, undef, undef, undef, undef, undef, undef, undef, undef, undef, undef, undef, undef, undef], defers := [] })
    ?ax ?assign ?body ?done ?stop
  case ax =>
    intro x a'
    refine Own.from (fun _ A B' row hs hg hr => ?_) _
    obtain ⟨Bx, h1, h2⟩ := hs
    exact ⟨Bx, kept_ofB hg hr _ _ h1 rfl, h2⟩
  case assign =>
    rintro l pre x W K ⟨⟨⟨v, hI⟩, hgood⟩, hB⟩ hK
    have hxe := rfV_eq x.1
    have hlt4 := heap_lt hI.hs
    gi_wp2
    have hb1 : Below W.heap.size W (W.alloc (.cells #[.bool x.1.isSome, .int .i64 (rfK x.1 : Nat), .string (rfB x.1), .int .i64 (rfN x.1 : Nat)] 101)) := (Below.refl _ _).alloc (Nat.le_refl _) _
    exact hK _ _ ((KeepsOthers.alloc _ _).from _) (KF.of hb1 (by omega) hlt4) ⟨⟨⟨v, hI.below hb1⟩, hgood⟩, hB.trans (hb1.mono (by omega))⟩ ⟨W.heap.size, World.heap_alloc_new _ _, rfl⟩
  case body =>
    rintro l pre x a' W hl ⟨r, hr⟩ ⟨⟨⟨v, hI⟩, hok⟩, hB⟩ ⟨Bx, hX, rfl⟩ hlt
    obtain ⟨⟨x0, x1, x2, x3⟩, -⟩ := four_cells hX
    have hlt4 := heap_lt hI.hs
    have hpn : Hid (pre.length < s.size) := Nat.lt_of_lt_of_le hlt hFL
    have HI := hdB hI
    have HX := hdB hX
    have HB := hdB hB
    clear hI hX hB hlt
    by_cases hk : ((rfK x.1 : Nat) : Int) = 66
    · have hne : (((rfK x.1 : Nat) : Int) != 66) = false := by rw [hk]; rfl
      have hgd : Hid (gd 66 x.1 = true) := by
        show _ = _
        cases hx : x.1 with
        | none => rw [hx] at hk; simp [rfK] at hk
        | some q => rw [hx] at hk; unfold gd; rw [hk]; rfl
      have hk' := hdB hk
      clear hk
      have hxs := x.2
      have HD := hdB (fun w => implDec_any (rfB x.1) w (by omega))
      cases hdp : (dec (rfB x.1)).isSome with
      | false =>
        rw [hdp] at HD
        gi_wp2_with (refine ⟨trivial, (CallsIn.inRound l (callsIn_wide.2 (HD.out _))).mono ?_⟩; rintro e W1 ⟨a1, cap1, rfl, hr1, hb1⟩; have hI1 := hdB (HI.out.below hb1); obtain ⟨r0, r1⟩ := one_cell hI1.out.h1; obtain ⟨r2, r3⟩ := one_cell hI1.out.h2; have hn1 := heap_lt hI1.out.h2; have hn0 : w.heap.size < W1.heap.size := Nat.lt_of_succ_lt hn1; have HB1 := hdB hb1; clear hb1 hr1)
        refine ⟨((((others_of HB1.out).trans (KeepsOthers.setCell _ _ _)).trans (KeepsOthers.setCell _ _ _)).trans (KeepsOthers.alloc _ _)).from _, ⟨pre, x, rfl, hok, .inr ⟨rfl, hgd.out, hdp, W1.heap.size, ?_, ?_⟩⟩, (((HB.out.trans (HB1.out.mono HB.out.size)).setCell (p := ⟨w.heap.size, 0, none⟩) (Nat.le_refl _) _).setCell (p := ⟨w.heap.size + 1, 0, none⟩) (by simp) _).alloc (by simp; omega) _⟩
        · rw [Below.heap_alloc _ _ _ (by simp; omega), Below.heap_setCell _ _ _ _ (by simp), heap_setCell_same _ _ _ _ _ _ hI1.out.h1]; rfl
        · rw [Below.heap_alloc _ _ _ (by simp; omega), heap_setCell_same _ _ _ _ _ _ ((Below.heap_setCell _ _ _ _ (by simp)).trans hI1.out.h2)]; rfl
      | true =>
        rw [hdp] at HD
        have hel := esT_len (pay1 pre)
        rw [show (pay1 pre).length = pre.length by simp [pay1]] at hel
        have hel2 : (esT (pay1 pre)).length ≤ 1048576000 := by have := hpn.out; omega
        have hdl := decL_len (rfB x.1)
        have HEs : Hid (esT (pay1 pre) ++ decL (rfB x.1) = esT (pay1 (pre ++ [x]))) := by show _ = _; rw [pay1_snoc, esT_snoc]
        have HBs := hdB HB.out.size
        clear hel
        gi_wp2_with (first
          | (refine ⟨trivial, (CallsIn.inRound l (callsIn_wide.2 (HD.out _))).mono ?_⟩; rintro e W1 ⟨a1, cap1, rfl, hr1, hb1⟩; have hI1 := hdB (HI.out.below hb1); obtain ⟨v0, v1⟩ := one_cell hI1.out.hv; have HL1 := hdB hr1.lie; have HB1 := hdB hb1; clear hb1 hr1)
          | (gi_at_builtin; refine wpListIn_append_ents _ rfl _ _ rfl w.heap.size _ _ (esT (pay1 pre)) rfl hI1.out.row a1 cap1 (decL (rfB x.1)) rfl HL1.out (by omega) (Nat.le_trans HBs.out HB1.out.size) ?_; intro v' w2 hown2 hgrow hat; rw [HEs.out] at hown2; have hv2 := (hgrow.block _ (heap_lt hI1.out.hv) (fun e => owns_neT hI1.out.row hI1.out.hv (by decide) e.symm)).trans hI1.out.hv; obtain ⟨y0, y1⟩ := one_cell hv2; obtain ⟨av', cv', rfl⟩ := owns_sliceB hown2))
        obtain ⟨d1, d2, d3⟩ := HI.out.app (x := x) HB1.out hgrow hown2 HBs.out
        exact ⟨d3.from _, d2, ⟨⟨_, d1⟩, okF_snoc hok hgd.out hdp⟩, HB.out.trans d2.bel⟩
    · have hne : (((rfK x.1 : Nat) : Int) != 66) = true := by rw [bne_iff_ne]; exact hk
      have hgd : Hid (gd 66 x.1 = false) := by
        show _ = _
        unfold gd
        rw [Bool.and_eq_false_iff]
        right
        rw [beq_eq_false_iff_ne]
        exact hk
      have hk' := hdB hk
      clear hk
      gi_wp2_with fail
      exact ⟨KeepsFrom.refl _ _, ⟨pre, x, rfl, hok, .inl ⟨rfl, hgd.out, v, HI.out⟩⟩, HB.out⟩
  case done =>
    rintro D ys W hD hys ⟨⟨⟨v, hI⟩, hok⟩, hB⟩ hK
    have hP : pl s = pay1 ys := pl_done hys hok
    have hokD := okF_okD hok
    obtain ⟨v0, v1⟩ := one_cell hI.hv
    obtain ⟨r0, r1⟩ := one_cell hI.h1
    obtain ⟨r2, r3⟩ := one_cell hI.h2
    obtain ⟨-, av, cv, hav, hres⟩ := resE_of_owns hI.row
    subst hav
    have hLie := hres.lie
    have hel := esT_len (pay1 ys)
    have hpl := pl_len s
    rw [hP] at hpl
    have hall := esT_all (pay1 ys)
    have hE1 := HE1.out _ hP
    have hE2 := HE2.out _ hP hokD
    have hBs := hB.size
    have HST2 := hdB (HST.out.low hB hglt)
    have hcv : (esT (pay1 ys)).length ≤ cv := by
      rcases hI.row.2 with ⟨h1, h2⟩ | ⟨g, cap, cur, h1, -, -, h2, -⟩
      · injection h1 with h3 h4 h5; omega
      · injection h1 with h3 h4 h5; omega
    have HI := hdB hI
    have HRes := hdB hres
    have HB := hdB hB
    have HK := hdB hK
    clear hP hokD hI hres hB hK HE1 HE2 HE3
    generalize esT (pay1 ys) = E at *
    by_cases hz : s.size = 0
    · have hO := HE0.out hz
      subst hO
      have hL0 := HN.out rfl
      subst hL0
      have hem : s.toList.isEmpty = true := (empty_iff _).2 hz
      replace hz := hdB hz
      gi_wp2_with fail
      refine ⟨trivial, ?_⟩
      have hIx := HI
      have hKx := HK
      have hBx := HB
      clear v0 v1 r0 r1 r2 r3
      have hn1 := heap_lt hIx.out.h2
      have hn0 : w.heap.size < W.heap.size := Nat.lt_of_succ_lt hn1
      obtain ⟨q0, q1⟩ := one_cell hIx.out.h1
      obtain ⟨q2, q3⟩ := one_cell hIx.out.h2
      gi_wp2_with fail
      have hK6 := (((KeepsOthers.setCell W ⟨w.heap.size, 0, none⟩ (.slice (some ⟨W.heap.size, 0, none⟩) 0 0)).trans (KeepsOthers.setCell _ ⟨w.heap.size + 1, 0, none⟩ (.bool false))).trans (KeepsOthers.alloc _ (.cells #[] 50))).same D _ hKx.out rfl
      have hB6 := ((hBx.out.setCell (p := ⟨w.heap.size, 0, none⟩) (Nat.le_refl _) (.slice (some ⟨W.heap.size, 0, none⟩) 0 0)).setCell (p := ⟨w.heap.size + 1, 0, none⟩) (by simp) (.bool false)).alloc (by simp; omega) (.cells #[] 50)
      have hR1 : (((W.setCell ⟨w.heap.size, 0, none⟩ (.slice (some ⟨W.heap.size, 0, none⟩) 0 0)).setCell ⟨w.heap.size + 1, 0, none⟩ (.bool false)).alloc (.cells #[] 50)).heap[w.heap.size]? = some (.cells #[.slice (some ⟨W.heap.size, 0, none⟩) 0 0] 26 (0, 0)) := by rw [Below.heap_alloc _ _ _ (by simp; omega), Below.heap_setCell _ _ _ _ (by simp), heap_setCell_same _ _ _ _ _ _ hIx.out.h1]; rfl
      have hR2 : (((W.setCell ⟨w.heap.size, 0, none⟩ (.slice (some ⟨W.heap.size, 0, none⟩) 0 0)).setCell ⟨w.heap.size + 1, 0, none⟩ (.bool false)).alloc (.cells #[] 50)).heap[w.heap.size + 1]? = some (.cells #[.bool false] 4 (0, 0)) := by rw [Below.heap_alloc _ _ _ (by simp; omega), heap_setCell_same _ _ _ _ _ _ ((Below.heap_setCell _ _ _ _ (by simp)).trans hIx.out.h2)]; rfl
      have hBp := hB6.trans (belowK_b (w := w) (Nat.le_refl _) _ D _ (.deferred none) (by omega) hK6 rfl rfl)
      have hG1 := kept_ofB (grownBy_putObj' _ D (.deferred none)) (fun r e => by cases e; exact ⟨_, hK6, rfl⟩) _ _ hR1 rfl
      have hG2 := kept_ofB (grownBy_putObj' _ D (.deferred none)) (fun r e => by cases e; exact ⟨_, hK6, rfl⟩) _ _ hR2 rfl
      obtain ⟨c1, -⟩ := one_cell hG1
      obtain ⟨c2, -⟩ := one_cell hG2
      refine ⟨by simp, .inl ⟨_, _, rfl, run_takeDeferred hK6, ?_⟩⟩
      refine ⟨.tuple #[.slice (some ⟨W.heap.size, 0, none⟩) 0 0, .bool false], by simp [results, Tryz.results47, go_sem, c1, c2], ?_⟩
      first | exact ⟨_, _, rfl, .inl rfl, hBp⟩ | exact ⟨_, ⟨_, rfl⟩, .inl rfl, hBp⟩
    have hem : s.toList.isEmpty = false := by
      cases h : s.toList.isEmpty with
      | false => rfl
      | true => exact absurd ((empty_iff _).1 h) hz
    have HT := hdB (implTab_any av cv E W hLie (fits_all hall) (by omega) hcv HST2.out)
    by_cases hT : tabT E = s
    · obtain ⟨hO, hL⟩ := hE2 hz hT
      subst hO
      subst hL
      rw [hT] at HT
      replace hz := hdB hz
      gi_wp2_with fail
      refine ⟨trivial, (callsIn_wide.2 HT.out).mono ?_⟩
      rintro e WX ⟨rfl, hb1⟩
      have hIx := hdB (HI.out.below hb1)
      have hKx := hdB ((others_of hb1).same D _ HK.out rfl)
      have hBx := hdB (HB.out.trans (hb1.mono hBs))
      have hResX := hdB (HRes.out.below hb1)
      clear hb1 v0 v1 r0 r1 r2 r3
      obtain ⟨q0, q1⟩ := one_cell hIx.out.h1
      obtain ⟨q2, q3⟩ := one_cell hIx.out.h2
      obtain ⟨u0, u1⟩ := one_cell hIx.out.hv
      gi_wp2_with fail
      have hK6 := ((KeepsOthers.setCell WX ⟨w.heap.size, 0, none⟩ (.slice av L.length cv)).trans (KeepsOthers.setCell _ ⟨w.heap.size + 1, 0, none⟩ (.bool true))).same D _ hKx.out rfl
      have hB6 := (hBx.out.setCell (p := ⟨w.heap.size, 0, none⟩) (Nat.le_refl _) (.slice av L.length cv)).setCell (p := ⟨w.heap.size + 1, 0, none⟩) (by simp) (.bool true)
      have hR1 : ((WX.setCell ⟨w.heap.size, 0, none⟩ (.slice av L.length cv)).setCell ⟨w.heap.size + 1, 0, none⟩ (.bool true)).heap[w.heap.size]? = some (.cells #[.slice av L.length cv] 26 (0, 0)) := by rw [Below.heap_setCell _ _ _ _ (by simp), heap_setCell_same _ _ _ _ _ _ hIx.out.h1]; rfl
      have h2s : (WX.setCell ⟨w.heap.size, 0, none⟩ (.slice av L.length cv)).heap[w.heap.size + 1]? = some (.cells #[.bool false] 4 (0, 0)) := (Below.heap_setCell _ _ _ _ (by simp)).trans hIx.out.h2
      have hR2 : ((WX.setCell ⟨w.heap.size, 0, none⟩ (.slice av L.length cv)).setCell ⟨w.heap.size + 1, 0, none⟩ (.bool true)).heap[w.heap.size + 1]? = some (.cells #[.bool true] 4 (0, 0)) := by rw [heap_setCell_same _ _ _ _ _ _ h2s]; rfl
      have hRes6 := (hResX.out.set hIx.out.h1 (by decide) (.slice av L.length cv)).set h2s (by decide) (.bool true)
      have hBp := hB6.trans (belowK_b (w := w) (Nat.le_refl _) _ D _ (.deferred none) (by omega) hK6 rfl rfl)
      have hG1 := kept_ofB (grownBy_putObj' _ D (.deferred none)) (fun r e => by cases e; exact ⟨_, hK6, rfl⟩) _ _ hR1 rfl
      have hG2 := kept_ofB (grownBy_putObj' _ D (.deferred none)) (fun r e => by cases e; exact ⟨_, hK6, rfl⟩) _ _ hR2 rfl
      have hRes7 := hRes6.blocks (kept_ofB (grownBy_putObj' _ D (.deferred none)) (fun r e => by cases e; exact ⟨_, hK6, rfl⟩))
      obtain ⟨c1, -⟩ := one_cell hG1
      obtain ⟨c2, -⟩ := one_cell hG2
      refine ⟨by simp, .inl ⟨_, _, rfl, run_takeDeferred hK6, ?_⟩⟩
      refine ⟨.tuple #[.slice av L.length cv, .bool true], by simp [results, Tryz.results47, go_sem, c1, c2], ?_⟩
      first | exact ⟨_, _, rfl, hRes7, hBp⟩ | exact ⟨_, ⟨_, rfl⟩, hRes7, hBp⟩
    · have hO := hE1 hT
      subst hO
      have hL0 := HN.out rfl
      subst hL0
      have hne : ((tabT E).toList == s.toList) = false := by
        cases h : ((tabT E).toList == s.toList) with
        | false => rfl
        | true => exact absurd (toList_eq' h) hT
      generalize tabT E = TE at *
      gi_wp2_with fail
      refine ⟨trivial, (callsIn_wide.2 HT.out).mono ?_⟩
      rintro e WX ⟨rfl, hb1⟩
      have hIx := hdB (HI.out.below hb1)
      have hKx := hdB ((others_of hb1).same D _ HK.out rfl)
      have hBx := hdB (HB.out.trans (hb1.mono hBs))
      have hResX := hdB (HRes.out.below hb1)
      clear hb1 v0 v1 r0 r1 r2 r3
      have hn1 := heap_lt hIx.out.h2
      have hn0 : w.heap.size < WX.heap.size := Nat.lt_of_succ_lt hn1
      obtain ⟨q0, q1⟩ := one_cell hIx.out.h1
      obtain ⟨q2, q3⟩ := one_cell hIx.out.h2
      gi_wp2_with fail
      have hK6 := (((KeepsOthers.setCell WX ⟨w.heap.size, 0, none⟩ (.slice (some ⟨WX.heap.size, 0, none⟩) 0 0)).trans (KeepsOthers.setCell _ ⟨w.heap.size + 1, 0, none⟩ (.bool false))).trans (KeepsOthers.alloc _ (.cells #[] 50))).same D _ hKx.out rfl
      have hB6 := ((hBx.out.setCell (p := ⟨w.heap.size, 0, none⟩) (Nat.le_refl _) (.slice (some ⟨WX.heap.size, 0, none⟩) 0 0)).setCell (p := ⟨w.heap.size + 1, 0, none⟩) (by simp) (.bool false)).alloc (by simp; omega) (.cells #[] 50)
      have hR1 : (((WX.setCell ⟨w.heap.size, 0, none⟩ (.slice (some ⟨WX.heap.size, 0, none⟩) 0 0)).setCell ⟨w.heap.size + 1, 0, none⟩ (.bool false)).alloc (.cells #[] 50)).heap[w.heap.size]? = some (.cells #[.slice (some ⟨WX.heap.size, 0, none⟩) 0 0] 26 (0, 0)) := by rw [Below.heap_alloc _ _ _ (by simp; omega), Below.heap_setCell _ _ _ _ (by simp), heap_setCell_same _ _ _ _ _ _ hIx.out.h1]; rfl
      have hR2 : (((WX.setCell ⟨w.heap.size, 0, none⟩ (.slice (some ⟨WX.heap.size, 0, none⟩) 0 0)).setCell ⟨w.heap.size + 1, 0, none⟩ (.bool false)).alloc (.cells #[] 50)).heap[w.heap.size + 1]? = some (.cells #[.bool false] 4 (0, 0)) := by rw [Below.heap_alloc _ _ _ (by simp; omega), heap_setCell_same _ _ _ _ _ _ ((Below.heap_setCell _ _ _ _ (by simp)).trans hIx.out.h2)]; rfl
      have hBp := hB6.trans (belowK_b (w := w) (Nat.le_refl _) _ D _ (.deferred none) (by omega) hK6 rfl rfl)
      have hG1 := kept_ofB (grownBy_putObj' _ D (.deferred none)) (fun r e => by cases e; exact ⟨_, hK6, rfl⟩) _ _ hR1 rfl
      have hG2 := kept_ofB (grownBy_putObj' _ D (.deferred none)) (fun r e => by cases e; exact ⟨_, hK6, rfl⟩) _ _ hR2 rfl
      obtain ⟨c1, -⟩ := one_cell hG1
      obtain ⟨c2, -⟩ := one_cell hG2
      refine ⟨by simp, .inl ⟨_, _, rfl, run_takeDeferred hK6, ?_⟩⟩
      refine ⟨.tuple #[.slice (some ⟨WX.heap.size, 0, none⟩) 0 0, .bool false], by simp [results, Tryz.results47, go_sem, c1, c2], ?_⟩
      first | exact ⟨_, _, rfl, .inl rfl, hBp⟩ | exact ⟨_, ⟨_, rfl⟩, .inl rfl, hBp⟩
  case stop =>
    rintro D cd pre W hD hpre ⟨⟨q, f, rfl, hok, hcd⟩, hB⟩ hK
    rcases hcd with ⟨rfl, hgf, v, hI⟩ | ⟨rfl, hgf, hdf, g, hr1, hr2⟩
    · skip
      have hP : pl s = pay1 q := pl_stop hpre hok hgf
      have hokD := okF_okD hok
      obtain ⟨v0, v1⟩ := one_cell hI.hv
      obtain ⟨r0, r1⟩ := one_cell hI.h1
      obtain ⟨r2, r3⟩ := one_cell hI.h2
      obtain ⟨-, av, cv, hav, hres⟩ := resE_of_owns hI.row
      subst hav
      have hLie := hres.lie
      have hel := esT_len (pay1 q)
      have hpl := pl_len s
      rw [hP] at hpl
      have hall := esT_all (pay1 q)
      have hE1 := HE1.out _ hP
      have hE2 := HE2.out _ hP hokD
      have hBs := hB.size
      have HST2 := hdB (HST.out.low hB hglt)
      have hcv : (esT (pay1 q)).length ≤ cv := by
        rcases hI.row.2 with ⟨h1, h2⟩ | ⟨g, cap, cur, h1, -, -, h2, -⟩
        · injection h1 with h3 h4 h5; omega
        · injection h1 with h3 h4 h5; omega
      have HI := hdB hI
      have HRes := hdB hres
      have HB := hdB hB
      have HK := hdB hK
      clear hP hokD hI hres hB hK HE1 HE2 HE3
      generalize esT (pay1 q) = E at *
      by_cases hz : s.size = 0
      · have hO := HE0.out hz
        subst hO
        have hL0 := HN.out rfl
        subst hL0
        have hem : s.toList.isEmpty = true := (empty_iff _).2 hz
        replace hz := hdB hz
        gi_wp2_with fail
        refine ⟨trivial, ?_⟩
        have hIx := HI
        have hKx := HK
        have hBx := HB
        clear v0 v1 r0 r1 r2 r3
        have hn1 := heap_lt hIx.out.h2
        have hn0 : w.heap.size < W.heap.size := Nat.lt_of_succ_lt hn1
        obtain ⟨q0, q1⟩ := one_cell hIx.out.h1
        obtain ⟨q2, q3⟩ := one_cell hIx.out.h2
        gi_wp2_with fail
        have hK6 := (((KeepsOthers.setCell W ⟨w.heap.size, 0, none⟩ (.slice (some ⟨W.heap.size, 0, none⟩) 0 0)).trans (KeepsOthers.setCell _ ⟨w.heap.size + 1, 0, none⟩ (.bool false))).trans (KeepsOthers.alloc _ (.cells #[] 50))).same D _ hKx.out rfl
        have hB6 := ((hBx.out.setCell (p := ⟨w.heap.size, 0, none⟩) (Nat.le_refl _) (.slice (some ⟨W.heap.size, 0, none⟩) 0 0)).setCell (p := ⟨w.heap.size + 1, 0, none⟩) (by simp) (.bool false)).alloc (by simp; omega) (.cells #[] 50)
        have hR1 : (((W.setCell ⟨w.heap.size, 0, none⟩ (.slice (some ⟨W.heap.size, 0, none⟩) 0 0)).setCell ⟨w.heap.size + 1, 0, none⟩ (.bool false)).alloc (.cells #[] 50)).heap[w.heap.size]? = some (.cells #[.slice (some ⟨W.heap.size, 0, none⟩) 0 0] 26 (0, 0)) := by rw [Below.heap_alloc _ _ _ (by simp; omega), Below.heap_setCell _ _ _ _ (by simp), heap_setCell_same _ _ _ _ _ _ hIx.out.h1]; rfl
        have hR2 : (((W.setCell ⟨w.heap.size, 0, none⟩ (.slice (some ⟨W.heap.size, 0, none⟩) 0 0)).setCell ⟨w.heap.size + 1, 0, none⟩ (.bool false)).alloc (.cells #[] 50)).heap[w.heap.size + 1]? = some (.cells #[.bool false] 4 (0, 0)) := by rw [Below.heap_alloc _ _ _ (by simp; omega), heap_setCell_same _ _ _ _ _ _ ((Below.heap_setCell _ _ _ _ (by simp)).trans hIx.out.h2)]; rfl
        have hBp := hB6.trans (belowK_b (w := w) (Nat.le_refl _) _ D _ (.deferred none) (by omega) hK6 rfl rfl)
        have hG1 := kept_ofB (grownBy_putObj' _ D (.deferred none)) (fun r e => by cases e; exact ⟨_, hK6, rfl⟩) _ _ hR1 rfl
        have hG2 := kept_ofB (grownBy_putObj' _ D (.deferred none)) (fun r e => by cases e; exact ⟨_, hK6, rfl⟩) _ _ hR2 rfl
        obtain ⟨c1, -⟩ := one_cell hG1
        obtain ⟨c2, -⟩ := one_cell hG2
        refine ⟨by simp, .inl ⟨_, _, rfl, run_takeDeferred hK6, ?_⟩⟩
        refine ⟨.tuple #[.slice (some ⟨W.heap.size, 0, none⟩) 0 0, .bool false], by simp [results, Tryz.results47, go_sem, c1, c2], ?_⟩
        first | exact ⟨_, _, rfl, .inl rfl, hBp⟩ | exact ⟨_, ⟨_, rfl⟩, .inl rfl, hBp⟩
      have hem : s.toList.isEmpty = false := by
        cases h : s.toList.isEmpty with
        | false => rfl
        | true => exact absurd ((empty_iff _).1 h) hz
      have HT := hdB (implTab_any av cv E W hLie (fits_all hall) (by omega) hcv HST2.out)
      by_cases hT : tabT E = s
      · obtain ⟨hO, hL⟩ := hE2 hz hT
        subst hO
        subst hL
        rw [hT] at HT
        replace hz := hdB hz
        gi_wp2_with fail
        refine ⟨trivial, (callsIn_wide.2 HT.out).mono ?_⟩
        rintro e WX ⟨rfl, hb1⟩
        have hIx := hdB (HI.out.below hb1)
        have hKx := hdB ((others_of hb1).same D _ HK.out rfl)
        have hBx := hdB (HB.out.trans (hb1.mono hBs))
        have hResX := hdB (HRes.out.below hb1)
        clear hb1 v0 v1 r0 r1 r2 r3
        obtain ⟨q0, q1⟩ := one_cell hIx.out.h1
        obtain ⟨q2, q3⟩ := one_cell hIx.out.h2
        obtain ⟨u0, u1⟩ := one_cell hIx.out.hv
        gi_wp2_with fail
        have hK6 := ((KeepsOthers.setCell WX ⟨w.heap.size, 0, none⟩ (.slice av L.length cv)).trans (KeepsOthers.setCell _ ⟨w.heap.size + 1, 0, none⟩ (.bool true))).same D _ hKx.out rfl
        have hB6 := (hBx.out.setCell (p := ⟨w.heap.size, 0, none⟩) (Nat.le_refl _) (.slice av L.length cv)).setCell (p := ⟨w.heap.size + 1, 0, none⟩) (by simp) (.bool true)
        have hR1 : ((WX.setCell ⟨w.heap.size, 0, none⟩ (.slice av L.length cv)).setCell ⟨w.heap.size + 1, 0, none⟩ (.bool true)).heap[w.heap.size]? = some (.cells #[.slice av L.length cv] 26 (0, 0)) := by rw [Below.heap_setCell _ _ _ _ (by simp), heap_setCell_same _ _ _ _ _ _ hIx.out.h1]; rfl
        have h2s : (WX.setCell ⟨w.heap.size, 0, none⟩ (.slice av L.length cv)).heap[w.heap.size + 1]? = some (.cells #[.bool false] 4 (0, 0)) := (Below.heap_setCell _ _ _ _ (by simp)).trans hIx.out.h2
        have hR2 : ((WX.setCell ⟨w.heap.size, 0, none⟩ (.slice av L.length cv)).setCell ⟨w.heap.size + 1, 0, none⟩ (.bool true)).heap[w.heap.size + 1]? = some (.cells #[.bool true] 4 (0, 0)) := by rw [heap_setCell_same _ _ _ _ _ _ h2s]; rfl
        have hRes6 := (hResX.out.set hIx.out.h1 (by decide) (.slice av L.length cv)).set h2s (by decide) (.bool true)
        have hBp := hB6.trans (belowK_b (w := w) (Nat.le_refl _) _ D _ (.deferred none) (by omega) hK6 rfl rfl)
        have hG1 := kept_ofB (grownBy_putObj' _ D (.deferred none)) (fun r e => by cases e; exact ⟨_, hK6, rfl⟩) _ _ hR1 rfl
        have hG2 := kept_ofB (grownBy_putObj' _ D (.deferred none)) (fun r e => by cases e; exact ⟨_, hK6, rfl⟩) _ _ hR2 rfl
        have hRes7 := hRes6.blocks (kept_ofB (grownBy_putObj' _ D (.deferred none)) (fun r e => by cases e; exact ⟨_, hK6, rfl⟩))
        obtain ⟨c1, -⟩ := one_cell hG1
        obtain ⟨c2, -⟩ := one_cell hG2
        refine ⟨by simp, .inl ⟨_, _, rfl, run_takeDeferred hK6, ?_⟩⟩
        refine ⟨.tuple #[.slice av L.length cv, .bool true], by simp [results, Tryz.results47, go_sem, c1, c2], ?_⟩
        first | exact ⟨_, _, rfl, hRes7, hBp⟩ | exact ⟨_, ⟨_, rfl⟩, hRes7, hBp⟩
      · have hO := hE1 hT
        subst hO
        have hL0 := HN.out rfl
        subst hL0
        have hne : ((tabT E).toList == s.toList) = false := by
          cases h : ((tabT E).toList == s.toList) with
          | false => rfl
          | true => exact absurd (toList_eq' h) hT
        generalize tabT E = TE at *
        gi_wp2_with fail
        refine ⟨trivial, (callsIn_wide.2 HT.out).mono ?_⟩
        rintro e WX ⟨rfl, hb1⟩
        have hIx := hdB (HI.out.below hb1)
        have hKx := hdB ((others_of hb1).same D _ HK.out rfl)
        have hBx := hdB (HB.out.trans (hb1.mono hBs))
        have hResX := hdB (HRes.out.below hb1)
        clear hb1 v0 v1 r0 r1 r2 r3
        have hn1 := heap_lt hIx.out.h2
        have hn0 : w.heap.size < WX.heap.size := Nat.lt_of_succ_lt hn1
        obtain ⟨q0, q1⟩ := one_cell hIx.out.h1
        obtain ⟨q2, q3⟩ := one_cell hIx.out.h2
        gi_wp2_with fail
        have hK6 := (((KeepsOthers.setCell WX ⟨w.heap.size, 0, none⟩ (.slice (some ⟨WX.heap.size, 0, none⟩) 0 0)).trans (KeepsOthers.setCell _ ⟨w.heap.size + 1, 0, none⟩ (.bool false))).trans (KeepsOthers.alloc _ (.cells #[] 50))).same D _ hKx.out rfl
        have hB6 := ((hBx.out.setCell (p := ⟨w.heap.size, 0, none⟩) (Nat.le_refl _) (.slice (some ⟨WX.heap.size, 0, none⟩) 0 0)).setCell (p := ⟨w.heap.size + 1, 0, none⟩) (by simp) (.bool false)).alloc (by simp; omega) (.cells #[] 50)
        have hR1 : (((WX.setCell ⟨w.heap.size, 0, none⟩ (.slice (some ⟨WX.heap.size, 0, none⟩) 0 0)).setCell ⟨w.heap.size + 1, 0, none⟩ (.bool false)).alloc (.cells #[] 50)).heap[w.heap.size]? = some (.cells #[.slice (some ⟨WX.heap.size, 0, none⟩) 0 0] 26 (0, 0)) := by rw [Below.heap_alloc _ _ _ (by simp; omega), Below.heap_setCell _ _ _ _ (by simp), heap_setCell_same _ _ _ _ _ _ hIx.out.h1]; rfl
        have hR2 : (((WX.setCell ⟨w.heap.size, 0, none⟩ (.slice (some ⟨WX.heap.size, 0, none⟩) 0 0)).setCell ⟨w.heap.size + 1, 0, none⟩ (.bool false)).alloc (.cells #[] 50)).heap[w.heap.size + 1]? = some (.cells #[.bool false] 4 (0, 0)) := by rw [Below.heap_alloc _ _ _ (by simp; omega), heap_setCell_same _ _ _ _ _ _ ((Below.heap_setCell _ _ _ _ (by simp)).trans hIx.out.h2)]; rfl
        have hBp := hB6.trans (belowK_b (w := w) (Nat.le_refl _) _ D _ (.deferred none) (by omega) hK6 rfl rfl)
        have hG1 := kept_ofB (grownBy_putObj' _ D (.deferred none)) (fun r e => by cases e; exact ⟨_, hK6, rfl⟩) _ _ hR1 rfl
        have hG2 := kept_ofB (grownBy_putObj' _ D (.deferred none)) (fun r e => by cases e; exact ⟨_, hK6, rfl⟩) _ _ hR2 rfl
        obtain ⟨c1, -⟩ := one_cell hG1
        obtain ⟨c2, -⟩ := one_cell hG2
        refine ⟨by simp, .inl ⟨_, _, rfl, run_takeDeferred hK6, ?_⟩⟩
        refine ⟨.tuple #[.slice (some ⟨WX.heap.size, 0, none⟩) 0 0, .bool false], by simp [results, Tryz.results47, go_sem, c1, c2], ?_⟩
        first | exact ⟨_, _, rfl, .inl rfl, hBp⟩ | exact ⟨_, ⟨_, rfl⟩, .inl rfl, hBp⟩
    · have hO := HE3.out (pl_bad hpre hok hgf hdf)
      subst hO
      have hL0 := HN.out rfl
      subst hL0
      gi_wp2
      have hBp := hB.trans (belowK_b (w := w) (Nat.le_refl _) _ D _ (.deferred none) (by omega) hK rfl rfl)
      have hG1 := kept_ofB (grownBy_putObj' _ D (.deferred none)) (fun r e => by cases e; exact ⟨_, hK, rfl⟩) _ _ hr1 rfl
      have hG2 := kept_ofB (grownBy_putObj' _ D (.deferred none)) (fun r e => by cases e; exact ⟨_, hK, rfl⟩) _ _ hr2 rfl
      obtain ⟨c1, -⟩ := one_cell hG1
      obtain ⟨c2, -⟩ := one_cell hG2
      refine ⟨by simp, .inl ⟨_, _, rfl, run_takeDeferred hK, ?_⟩⟩
      refine ⟨.tuple #[.slice (some ⟨g, 0, none⟩) 0 0, .bool false], by simp [results, Tryz.results47, go_sem, c1, c2], ?_⟩
      first | exact ⟨_, _, rfl, .inl rfl, hBp⟩ | exact ⟨_, ⟨_, rfl⟩, .inl rfl, hBp⟩
end Go.Proofs.YtgmfjninimebmaaGreatDoor
