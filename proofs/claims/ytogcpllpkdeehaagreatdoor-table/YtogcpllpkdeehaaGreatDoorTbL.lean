import Derived.Test.YtogcpllpkdeehaaGreatDoorTbY

import Derived.RangeFuncNested
import Derived.RangeFuncBound
import Derived.RangeFuncCalls
import Derived.RangeFuncLeaves
import Derived.Shelf.Abstract
import Derived.Shelf.RegionOpen
import Derived.WalkKit
import Derived.OwnWalkIn
import Derived.TacticsInMore
import Derived.LoopNIn
import Derived.LoopIn
import Derived.Maps.OwnIn
namespace Go.Proofs.YtogcpllpkdeehaaGreatDoor
open Go.RowKit Go.Maps Go.Shelf
attribute [local go_sem] Oper.semAt_some
set_option linter.unusedVariables false
set_option linter.unusedSimpArgs false

/-- A block of xs, by its place. -/
structure Bk (xs : List En) where
  k : Nat
  lt : 8 * k < xs.length
def Bk.len {xs : List En} (x : Bk xs) : Nat := (subE xs x.k).length
def Bk.val {xs : List En} (a : Option Addr) (x : Bk xs) : Value := match a with
  | some c => .slice (some ⟨c.block, c.off + 8 * x.k * 4, none⟩) x.len x.len
  | none => .slice none 0 0
/-- What a round keeps: what lies below n0, and the two boxes. -/
structure KC (n0 bs bn : Nat) (W W' : World) : Prop where
  bel : Below n0 W W'
  hs : W'.heap[bs]? = W.heap[bs]?
  hn : W'.heap[bn]? = W.heap[bn]?
theorem KC.trans {n0 bs bn : Nat} {A B C : World} (h : KC n0 bs bn A B) (k : KC n0 bs bn B C) : KC n0 bs bn A C := ⟨h.bel.trans k.bel, k.hs.trans h.hs, k.hn.trans h.hn⟩
theorem KC.of {n0 bs bn : Nat} {W W' : World} (h : Below W.heap.size W W') (hn : n0 ≤ W.heap.size) (h1 : bs < W.heap.size) (h2 : bn < W.heap.size) : KC n0 bs bn W W' := ⟨h.mono hn, h.block _ h1, h.block _ h2⟩
theorem KC.put {n0 bs bn : Nat} {w : World} (hn : n0 ≤ w.heap.size) (h1 : bs < w.heap.size) (h2 : bn < w.heap.size) (W : World) (l : Nat) (o o' : Obj) (hl : w.heap.size ≤ l) (h : W.heap[l]? = some o) (hc : o.isCells = false) (hw : o.isWalk = false) : KC n0 bs bn W (W.putObj l o') :=
  ⟨⟨rfl, rfl, rfl, by simp, fun k hk => World.putObj_heap_other (by omega)⟩, World.putObj_heap_other (by omega), World.putObj_heap_other (by omega)⟩
theorem KC.wr {n0 bs bn b : Nat} {v v' : Value} {W W' : World} (h : Wr b v v' W W') (h0 : n0 ≤ b) (hr : ∀ g, v.ownBlock = some g → n0 ≤ g) (hn : n0 ≤ W.heap.size) (h1 : bs < W.heap.size) (h2 : bn < W.heap.size) (h3 : bs ≠ b) (h4 : bn ≠ b) (h5 : v.ownBlock ≠ some bs) (h6 : v.ownBlock ≠ some bn) : KC n0 bs bn W W' :=
  ⟨h.below h0 hr hn, h.block _ h1 h3 (fun e => h5 e.symm), h.block _ h2 h4 (fun e => h6 e.symm)⟩
theorem cell_ofB {W W' : World} {b o : Nat} (h : W'.heap[b]? = W.heap[b]?) : W'.cell? ⟨b, o, none⟩ = W.cell? ⟨b, o, none⟩ := by simp only [World.cell?, h]

set_option maxRecDepth 100000 in
set_option maxHeartbeats 1000000 in
theorem chunk1_in (n : Nat) (hn : 1 ≤ n) (l bs bn n₀ cap : Nat) (a : Option Addr) (xs : List En) (ha : 0 < xs.length → ∃ b off, a = some ⟨b, off, none⟩) (hlen : xs.length ≤ 1048576) (hcap : xs.length ≤ cap) (J Jx : List (Bk xs) → World → Prop) (W0 : World) (hJ : AbidesFrom W0.heap.size J) (Kp : World → World → Prop) (hKp : ∀ A B, Kp A B → KC n₀ bs bn A B)
    (hY : ∀ pre (x : Bk xs) W, J pre W → pre.length < nbE xs.length → YieldAt Fence.wide (n - 1) Tryz.prog l #[x.val a] W fun e W' =>
      (e = .returned (.bool true) ∧ J (pre ++ [x]) W' ∧ Kp W W') ∨ (e = .returned (.bool false) ∧ Jx (pre ++ [x]) W'))
    (hbs : W0.cell? ⟨bs, 0, none⟩ = some (.slice a xs.length cap)) (hbn : W0.cell? ⟨bn, 0, none⟩ = some (.int .i64 8)) (h0 : J [] W0) :
    CallsIn Fence.wide n Tryz.prog 43 #[.func (.yield l) #[] #[], .pointer (some ⟨bs, 0, none⟩), .pointer (some ⟨bn, 0, none⟩)] W0 fun e W' => (∃ v, e = .returned v) ∧
      ((∃ ys : List (Bk xs), ys.map Bk.k = List.range (nbE xs.length) ∧ J ys W') ∨ (∃ pre, Jx pre W')) := by
  replace hY := hdB hY
  refine callsIn_of_wp Tryz.func43 rfl trivial ?_ rfl
  simp only [Tryz.ntmps43, List.size_toArray, List.length_cons, List.length_nil, Nat.reduceAdd, Nat.reduceSub, Array.replicate_succ, Array.replicate_zero, List.push_toArray, List.append_toArray, List.nil_append, List.cons_append]
  gi_wp2
  gi_loopw [4] (fun r wr => ∃ (pre : List (Bk xs)) (p f : Nat), r = .int .i64 f ∧ Hid (f = 8 * p) ∧ Hid (pre.map Bk.k = List.range p) ∧ p ≤ nbE xs.length ∧ J pre wr ∧ wr.cell? ⟨bs, 0, none⟩ = some (.slice a xs.length cap) ∧ wr.cell? ⟨bn, 0, none⟩ = some (.int .i64 8)) (fun r _ => xs.length + 8 - (intOf r).toNat)
  case atStart => exact ⟨[], 0, 0, rfl, rfl, rfl, Nat.zero_le _, h0, hbs, hbn⟩
  case round =>
    obtain ⟨pre, p, f, rfl, HF, HP, hp, hJr, hcs, hcn⟩ := hrel
    have hf8 := HF.out
    by_cases hlt : f < xs.length
    · obtain ⟨b, off, rfl⟩ := ha (by omega)
      have hlt' : (f : Int) < xs.length := by omega
      have hplen : Hid (pre.length < nbE xs.length) := by
        have e := congrArg List.length HP.out
        simp only [List.length_map, List.length_range] at e
        show _ < _
        unfold nbE
        omega
      obtain ⟨x, hx⟩ : ∃ x : Bk xs, x.k = p := ⟨⟨p, by omega⟩, rfl⟩
      have hel : x.len = min 8 (xs.length - f) := by unfold Bk.len; rw [hx, subE_len, ← hf8]
      have hval : x.val (some ⟨b, off, none⟩) = .slice (some ⟨b, off + f * 4, none⟩) x.len x.len := by show Value.slice (some ⟨b, off + 8 * x.k * 4, none⟩) x.len x.len = _; rw [hx, ← hf8]
      have HP' : Hid ((pre ++ [x]).map Bk.k = List.range (p + 1)) := by show _ = _; rw [List.map_append, HP.out, List.range_succ]; simp [hx]
      have hp1 : p + 1 ≤ nbE xs.length := by unfold nbE; omega
      have HY := hdB (hY.out pre x)
      rw [hval] at HY
      clear hx hval hY
      generalize x.len = e at *
      have he1 : (f : Int) + e ≤ xs.length := by omega
      have he2 : (f : Int) + e ≤ cap := by omega
      have he3 : f ≤ xs.length := by omega
      have he4 : ¬ e = 0 := by omega
      have he5 : 0 < e := by omega
      have hmin : Hid (min (8 : Int) ((xs.length - f : Nat) : Int) = (e : Int)) := by show _ = _; omega
      have HF' : Hid (f + 8 = 8 * (p + 1)) := by show _ = _; omega
      clear hf8 hel
      gi_wp2
      gi_region
      rw [hmin.out]
      obtain ⟨fn, tmps, assign, body, hy, hR⟩ := HY.out wr.drew (hJ pre wr wr.drew none hJr ⟨rfl, rfl, rfl, Nat.le_refl _, fun _ _ _ => rfl⟩ (fun r e => by cases e)) hplen.out
      gi_wp2
      refine hR.mono ?_
      rintro e W3 (⟨rfl, hJ3, hk3⟩ | ⟨rfl, hJx3⟩)
      · have hF := hKp _ _ hk3
        have hc3 : W3.cell? ⟨bs, 0, none⟩ = some (.slice (some ⟨b, off, none⟩) xs.length cap) := (cell_ofB hF.hs).trans hcs
        have hn3 : W3.cell? ⟨bn, 0, none⟩ = some (.int .i64 8) := (cell_ofB hF.hn).trans hcn
        clear hcs hcn hbs hbn ha
        gi_wp2
        refine ⟨⟨pre ++ [x], p + 1, f + 8, by simp, HF', HP', hp1, hJ3, hc3, hn3⟩, ?_⟩
        simp only [intOf]
        omega
      · gi_wp2
        refine bodyPost_ret (results_none rfl _ _ _) rfl ?_
        exact ⟨⟨_, rfl⟩, .inr ⟨_, hJx3⟩⟩
    · have hlt' : ¬ (f : Int) < xs.length := by omega
      have hpe : p = nbE xs.length := by unfold nbE at *; omega
      subst hpe
      gi_wp2
      go_end0
      exact ⟨⟨_, rfl⟩, .inl ⟨_, HP.out, hJr⟩⟩

/-- slices.Chunk: the function value that yields the blocks. -/
theorem chunk_in (F : Fence) (n : Nat) (h5 : F.fn 19) (hro : F.round = none) (a : Option Addr) (len cap : Nat) (w : World) :
    CallsIn F n Tryz.prog 19 #[.slice a len cap, .int .i64 8] w fun e w' => e = .returned (.func (.func 43) #[] #[.pointer (some ⟨w.heap.size, 0, none⟩), .pointer (some ⟨w.heap.size + 1, 0, none⟩)]) ∧ w' = (w.alloc (.cells #[.slice a len cap] 23)).alloc (.cells #[.int .i64 8] 3) := by
  refine callsIn_of_wp Tryz.func19 rfl h5 ?_ hro
  simp only [Tryz.ntmps19, List.size_toArray, List.length_cons, List.length_nil, Nat.reduceAdd, Nat.reduceSub, Array.replicate_succ, Array.replicate_zero, List.push_toArray, List.append_toArray, List.nil_append, List.cons_append]
  gi_wp2
  go_ret
  exact ⟨rfl, rfl⟩
theorem chunk_stops (n : Nat) (hn : 1 ≤ n) (bs bn n₀ cap : Nat) (a : Option Addr) (xs : List En) (ha : 0 < xs.length → ∃ b off, a = some ⟨b, off, none⟩) (hlen : xs.length ≤ 1048576) (hcap : xs.length ≤ cap) (w : World) (h1 : bs < w.heap.size) (h2 : bn < w.heap.size)
    (hcs : w.cell? ⟨bs, 0, none⟩ = some (.slice a xs.length cap)) (hcn : w.cell? ⟨bn, 0, none⟩ = some (.int .i64 8)) :
    SeqStopsK Fence.wide n Tryz.prog 43 #[.pointer (some ⟨bs, 0, none⟩), .pointer (some ⟨bn, 0, none⟩)] (fun x : Bk xs => #[x.val a]) (KC n₀ bs bn) (fun ys => ys.map Bk.k = List.range (nbE xs.length)) (fun _ => True) (nbE xs.length) w := fun l J Jx W hW hJ _ hY h0 =>
  (chunk1_in n hn l bs bn n₀ cap a xs ha hlen hcap J Jx W hJ (KC n₀ bs bn) (fun _ _ h => h) hY ((hW.cell (p := ⟨bs, 0, none⟩) h1).trans hcs) ((hW.cell (p := ⟨bn, 0, none⟩) h2).trans hcn) h0).mono fun e W' ⟨h, k⟩ => ⟨h, k.imp (fun k => k) (fun ⟨pre, k⟩ => ⟨pre, trivial, k⟩)⟩
end Go.Proofs.YtogcpllpkdeehaaGreatDoor
