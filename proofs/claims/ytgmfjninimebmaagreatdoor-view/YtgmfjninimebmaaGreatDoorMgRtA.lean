import Derived.Test.YtgmfjninimebmaaGreatDoorMgRlF
import Derived.Maps.OwnIn
import Derived.Deep.Upon
import Derived.Shelf.Strings.BuilderK
import Derived.RangeFuncNested
import Derived.RangeFuncBound
import Derived.RangeFuncCalls
import Derived.RangeFuncLeaves
import Derived.Shelf.Abstract
import Derived.Shelf.RegionOpen
import Derived.WalkKit
import Derived.OwnWalkIn
import Derived.TacticsInMore
import Derived.LoopNIn
import Derived.LoopIn
namespace Go.Proofs.YtgmfjninimebmaaGreatDoor
open Go.RowKit Go.Maps
set_option linter.unusedVariables false
set_option linter.unusedSimpArgs false

theorem cellsE_app (xs ys : List En) : cellsE (xs ++ ys) = cellsE xs ++ cellsE ys := by simp [cellsE]
theorem cellsE_one (xs : List En) : ∀ u ∈ cellsE xs, u.oneCell' = true := by
  intro u hu
  simp only [cellsE, List.mem_flatMap] at hu
  obtain ⟨e, -, he⟩ := hu
  simp at he
  rcases he with rfl | rfl | rfl | rfl <;> rfl
theorem LieE.cells {w : World} {b off : Nat} {xs : List En} (h : LieE w (some ⟨b, off, none⟩) xs) : ∀ j u, (cellsE xs)[j]? = some u → w.cell? ((⟨b, off, none⟩ : Addr).add j) = some u := by
  intro j u hu
  rw [Go.WideShapes.add_plain]
  have hj : j < (cellsE xs).length := (List.getElem?_eq_some_iff.1 hu).1
  rw [cellsE_len] at hj
  obtain ⟨b', off', e, -, c0, c1, c2, c3⟩ := h.at (i := j / 4) (by omega)
  cases e
  obtain ⟨a0, a1, a2, a3⟩ := cellsE_at xs (j / 4) (by omega)
  have hr : j = j / 4 * 4 ∨ j = j / 4 * 4 + 1 ∨ j = j / 4 * 4 + 2 ∨ j = j / 4 * 4 + 3 := by omega
  generalize j / 4 = q at *
  rcases hr with rfl | rfl | rfl | rfl
  · rw [a0] at hu
    cases hu
    exact c0
  · rw [a1] at hu
    cases hu
    exact c1
  · rw [a2] at hu
    cases hu
    exact c2
  · rw [a3] at hu
    cases hu
    exact c3
/-- Entries behind entries that the call owns. -/
theorem run_append_ents (w : World) (B : Nat) (v : Value) (n : Nat) (xs : List En) (hown : w.ownsRow B 50 4 v n (cellsE xs)) (a : Option Addr) (c : Nat) (ys : List En) (hy : LieE w a ys) (hb : xs.length + ys.length ≤ 2000000000) (hB : B ≤ w.heap.size) (ty : TypeId) :
    ∃ v' w', (Builtin.append_ #[26, 26] ty #[v, .slice a ys.length c]).run Tryz.prog w = .ok v' w' ∧ w'.ownsRow B 50 4 v' (xs ++ ys).length (cellsE (xs ++ ys)) ∧ w.grownBy w' v.ownBlock ∧ (v'.ownBlock = v.ownBlock ∨ v'.ownBlock = some w.heap.size) := by
  obtain ⟨i0, hi, hz0, hz1, hz2⟩ := info_parts iEntry_info
  have hn : n = xs.length := by have := hown.1; rw [cellsE_len] at this; omega
  subst hn
  by_cases hnil : ys = []
  · subst hnil
    have hS : Src Tryz.prog i0.size 26 (.slice a ([] : List En).length c) 0 [] w := by
      cases a with
      | none => exact Src.ofNil w Tryz.underlying26 c
      | some ad => exact Src.ofSlice w Tryz.underlying26 ad 0 c [] (by simp) (fun j u h => by simp at h) (fun u h => by cases h)
    obtain ⟨b, cap, rfl, hle⟩ : ∃ b cap, v = .slice b xs.length cap ∧ xs.length ≤ cap := by
      rcases hown.2 with ⟨rfl, h0⟩ | ⟨g, cap, cur, rfl, hg, hbk, hl, _⟩
      · exact ⟨none, 0, by rw [h0], by omega⟩
      · exact ⟨_, _, rfl, hl⟩
    refine ⟨_, _, run_append_nothing w _ _ ty _ i0 Tryz.underlying26 hi b xs.length cap hle _ hS, by simpa using hown, ⟨rfl, rfl, rfl, Nat.le_refl _, fun _ _ _ => rfl⟩, .inl rfl⟩
  · obtain ⟨b, off, rfl, -⟩ := hy.at (i := 0) (List.length_pos_iff.2 hnil)
    obtain ⟨v', w', h1, h2, h3, -, h5⟩ := run_append_own_at (P := Tryz.prog) w B 26 ty 50 i0 _ 4 48 Tryz.underlying26 hi hz0 hz1 hz2 rfl (by decide) v xs.length (cellsE xs) hown ⟨b, off, none⟩ ys.length c (cellsE ys) (cellsE_len ys) hy.cells (cellsE_one ys) (by unfold maxLen; omega) (by omega) hB
    exact ⟨v', w', h1, by rw [cellsE_app, List.length_append]; exact h2, h3, h5⟩
theorem wpListIn_append_ents {F : Fence} {nF : Nat} (w : World) {ops : Array Oper} {rest : List Oper} {o : Oper} {a : Act} {Q : Exit → Act → World → Prop} (hgd : o.guard = none) (s x : Operand)
    (ho : o.op = .call { callee := .builtin .append, args := #[s, x], argTypes := #[26, 26] })
    (B : Nat) (v : Value) (n : Nat) (xs : List En) (hs : a.eval s = v) (hown : w.ownsRow B 50 4 v n (cellsE xs)) (ad : Option Addr) (c : Nat) (ys : List En) (hx : a.eval x = .slice ad ys.length c) (hy : LieE w ad ys) (hb : xs.length + ys.length ≤ 2000000000) (hB : B ≤ w.heap.size)
    (h : ∀ v' w', w'.ownsRow B 50 4 v' (xs ++ ys).length (cellsE (xs ++ ys)) → w.grownBy w' v.ownBlock → (v'.ownBlock = v.ownBlock ∨ v'.ownBlock = some w.heap.size) → wpListIn F nF Tryz.prog ops Q rest (a.put o.dst v') w') :
    wpListIn F nF Tryz.prog ops Q (o :: rest) a w := by
  refine wpListIn_plain hgd fun K hK => ?_
  obtain ⟨v', w', hr, h2, h3, h5⟩ := run_append_ents w B v n xs hown ad c ys hy hb hB o.type
  unfold Oper.wpIn
  refine ⟨by simp [Oper.about, ho, resolve, Target.leads, Sem.run_pure], ?_⟩
  rw [Oper.semAt_plain F _ _ (by rw [ho]; intro c hc'; cases hc')]
  simp [execOp, ho, resolve, invoke, builtin, hs, hx, hr, Result.andThen]
  exact hK _ _ (h v' w' h2 h3 h5)
theorem LieE.grown {w w' : World} {a : Option Addr} {xs : List En} {row : Option Nat} (h : LieE w a xs) (hg : w.grownBy w' row) (hne : ∀ g o, row = some g → a ≠ some ⟨g, o, none⟩) : LieE w' a xs := by
  rcases h with rfl | ⟨b, off, rfl, hl, hc⟩
  · exact .inl rfl
  · have hb := hg.block b hl (fun e => hne b off e.symm rfl)
    refine .inr ⟨b, off, rfl, Nat.lt_of_lt_of_le hl hg.size, fun i hi => ?_⟩
    obtain ⟨a0, a1, a2, a3⟩ := hc i hi
    have key : ∀ o, w'.cell? ⟨b, o, none⟩ = w.cell? ⟨b, o, none⟩ := fun o => by simp only [World.cell?, hb]
    exact ⟨(key _).trans a0, (key _).trans a1, (key _).trans a2, (key _).trans a3⟩
end Go.Proofs.YtgmfjninimebmaaGreatDoor
namespace Go.Proofs.YtgmfjninimebmaaGreatDoor
open Go.RowKit Go.Maps
set_option linter.unusedVariables false
set_option linter.unusedSimpArgs false

/-- What a write to the builder at b whose row is v turns: b, v's block, and what is new; its row is then v'. -/
structure Wr (b : Nat) (v v' : Value) (w w' : World) : Prop where
  os : w'.os = w.os
  tape : w'.tape = w.tape
  output : w'.output = w.output
  size : w.heap.size ≤ w'.heap.size
  block : ∀ k, k < w.heap.size → k ≠ b → some k ≠ v.ownBlock → w'.heap[k]? = w.heap[k]?
  place : v'.ownBlock = v.ownBlock ∨ ∃ g, v'.ownBlock = some g ∧ w.heap.size ≤ g
theorem Wr.of {b : Nat} {v : Value} {w w' : World} (h : Below w.heap.size w w') : Wr b v v w w' := ⟨h.os, h.tape, h.output, h.size, fun k hk _ _ => h.block k hk, .inl rfl⟩
theorem Wr.trans {b : Nat} {v v' v'' : Value} {A B C : World} (h : Wr b v v' A B) (k : Wr b v' v'' B C) : Wr b v v'' A C := by
  refine ⟨k.os.trans h.os, k.tape.trans h.tape, k.output.trans h.output, Nat.le_trans h.size k.size, fun i hi hb hv => ?_, ?_⟩
  · refine (k.block i (Nat.lt_of_lt_of_le hi h.size) hb (fun e => ?_)).trans (h.block i hi hb hv)
    rcases h.place with h1 | ⟨g, h1, h2⟩
    · exact hv (e.trans h1)
    · rw [h1] at e
      cases e
      omega
  · rcases k.place with h1 | ⟨g, h1, h2⟩
    · rw [h1]; exact h.place
    · exact .inr ⟨g, h1, Nat.le_trans h.size h2⟩
theorem Wr.grown {b : Nat} {v v' : Value} {w w' : World} (h : w.grownBy w' v.ownBlock) (hat : v'.ownBlock = v.ownBlock ∨ ∃ g, v'.ownBlock = some g ∧ w.heap.size ≤ g) : Wr b v v' w w' :=
  ⟨h.os, h.tape, h.output, h.size, fun k hk _ hv => h.block k hk hv, hat⟩
theorem Wr.set {b o : Nat} {v : Value} (w : World) (u : Value) : Wr b v v w (w.setCell ⟨b, o, none⟩ u) :=
  ⟨rfl, rfl, rfl, by simp [World.setCell], fun k _ hn _ => Below.heap_setCell _ _ _ _ (by simpa using hn), .inl rfl⟩
theorem Wr.below {b B : Nat} {v v' : Value} {w w' : World} (h : Wr b v v' w w') (h1 : B ≤ b) (h2 : ∀ g, v.ownBlock = some g → B ≤ g) (h3 : B ≤ w.heap.size) : Below B w w' :=
  ⟨h.os, h.tape, h.output, h.size, fun k hk => h.block k (by omega) (by omega) (fun e => by have := h2 k e.symm; omega)⟩

/-- A builder at block b that holds the bytes l, its row being v. -/
def BldV (B b : Nat) (l : List UInt8) (v : Value) (w : World) : Prop :=
  B ≤ b ∧ ∃ p, (p = Value.pointer none ∨ p = .pointer (some ⟨b, 0, none⟩)) ∧ w.heap[b]? = some (.cells #[p, v] 150 (0, 0)) ∧ w.ownsRowF B 5 1 v l.length (bc l) ∧ v.ownBlock ≠ some b
theorem BldV.bld {B b : Nat} {l : List UInt8} {v : Value} {w : World} (h : BldV B b l v w) : Bld B b l w := by
  obtain ⟨hB, p, hp, hb, ho, hn⟩ := h
  have ho' : w.ownsRowF B 5 1 v (bc l).length (bc l) := by simpa using ho
  rcases hp with rfl | rfl
  · exact .inl ⟨hB, v, hb, ho', hn⟩
  · exact .inr ⟨hB, v, hb, ho', hn⟩
theorem BldV.lt {B b : Nat} {l : List UInt8} {v : Value} {w : World} (h : BldV B b l v w) : b < w.heap.size := h.bld.lt
theorem BldV.rowLt {B b : Nat} {l : List UInt8} {v : Value} {w : World} (h : BldV B b l v w) : ∀ g, v.ownBlock = some g → B ≤ g ∧ g < w.heap.size := by
  obtain ⟨hB, p, hp, hb, ho, hn⟩ := h
  exact ho.lt
/-- Where its two blocks lie as they lay it is the same builder. -/
theorem BldV.kept {B b : Nat} {l : List UInt8} {v : Value} {w w' : World} (h : BldV B b l v w) (h1 : w'.heap[b]? = w.heap[b]?) (h2 : ∀ g, v.ownBlock = some g → w'.heap[g]? = w.heap[g]?) : BldV B b l v w' := by
  obtain ⟨hB, p, hp, hb, ⟨k1, k2⟩, hn⟩ := h
  refine ⟨hB, p, hp, h1.trans hb, ⟨k1, ?_⟩, hn⟩
  rcases k2 with k2 | ⟨g, cap, cur, fz, rfl, hg, hgk, hrest⟩
  · exact .inl k2
  · exact .inr ⟨g, cap, cur, fz, rfl, hg, (h2 g rfl).trans hgk, hrest⟩
theorem BldV.below {B b : Nat} {l : List UInt8} {v : Value} {w w' : World} (h : BldV B b l v w) (hb : Below w.heap.size w w') : BldV B b l v w' :=
  h.kept (hb.block b h.lt) (fun g hg => hb.block g (h.rowLt g hg).2)
/-- A write to one builder leaves another alone. -/
theorem BldV.other {B b b2 : Nat} {l l2 : List UInt8} {v v' v2 : Value} {w w' : World} (h2 : BldV B b2 l2 v2 w) (h : BldV B b l v w) (hw : Wr b v v' w w') (hb : b ≠ b2) (hd : ∀ g, v.ownBlock = some g → v2.ownBlock ≠ some g) :
    BldV B b2 l2 v2 w' ∧ (∀ g, v'.ownBlock = some g → v2.ownBlock ≠ some g) := by
  obtain ⟨hB, p, hp, hbk, ho, hn⟩ := h
  refine ⟨h2.kept (hw.block b2 h2.lt (fun e => hb e.symm) (fun e => ?_)) (fun g hg => hw.block g (h2.rowLt g hg).2 (fun e => ?_) (fun e => hd g e.symm hg)), fun g h1 h3 => ?_⟩
  · obtain ⟨hB2, p2, hp2, hbk2, ho2, hn2⟩ := h2
    exact Lib.ownBlock_neF ho hbk2 (by decide) e.symm
  · obtain ⟨hB2, p2, hp2, hbk2, ho2, hn2⟩ := h2
    subst e
    exact Lib.ownBlock_neF ho2 hbk (by decide) hg
  · rcases hw.place with h4 | ⟨g', h4, h5⟩
    · exact hd g (h4.symm.trans h1) h3
    · have := (h2.rowLt g h3).2
      rw [h4] at h1
      cases h1
      omega

theorem run_append_strAt {P : Program} (w : World) (base : Nat) (t u ty e : TypeId) (i : TypeInfo) (ht : P.underlying t = some (.slice e)) (hu : P.underlying u = some .string) (hi : P.info? e = some i) (hz : i.zero = some (.int .u8 0))
    (hsize : i.size = 1) (hby : i.bytes = 1)
    (v : Value) (n : Nat) (xs : List Value) (hown : w.ownsRowF base e 1 v n xs) (s : ByteArray)
    (h63 : n + s.size ≤ maxLen) (hbytes : n + s.size ≤ 140737488355328) (hbase : base ≤ w.heap.size) :
    ∃ v' w', (Builtin.append_ #[t, u] ty #[v, .string s]).run P w = .ok v' w' ∧ w'.ownsRowF base e 1 v' (n + s.size) (xs ++ Lib.strCells s) ∧ w.grownBy w' v.ownBlock ∧
      (v'.ownBlock = v.ownBlock ∨ ∃ g, v'.ownBlock = some g ∧ w.heap.size ≤ g) := by
  obtain ⟨v', w', hr, h2, h3, h4⟩ := Lib.run_append_own_stringF (P := P) w base t u ty e i ht hu hi hz hsize hby v n xs hown s h63 hbytes hbase
  refine ⟨v', w', hr, h2, h3, ?_⟩
  have hsmall : n + s.size ≤ 9223372036854775807 := by simp only [maxLen] at h63; omega
  have hxl : xs.length = n := by simpa using hown.1
  rcases hown.2 with ⟨rfl, rfl⟩ | ⟨g, cap, cur, fz, rfl, hbg, hg, hfz, hnc, hcm, hcs, htake⟩
  · obtain ⟨v2, w2, hr2, h5, _, _⟩ := Lib.run_append_own_stringF (P := P) w w.heap.size t u ty e i ht hu hi hz hsize hby (.slice none 0 0) 0 xs ⟨hown.1, .inl ⟨rfl, rfl⟩⟩ s h63 hbytes (Nat.le_refl _)
    rw [hr] at hr2
    cases hr2
    cases hv : v'.ownBlock with
    | none => exact .inl rfl
    | some g => exact .inr ⟨g, rfl, (h5.lt g hv).1⟩
  · by_cases hroom : n + s.size ≤ cap
    · have hcs' : cur.size = cap := by simpa using hcs
      rw [Lib.run_append_room_stringF (P := P) w t u ty e i ht hu hi hsize g n cap cur fz hg (by simpa using hfz) s hroom (by omega)] at hr
      cases hr
      exact .inl rfl
    · have holds : ∀ j u, xs[j]? = some u → w.cell? ((⟨g, 0, none⟩ : Addr).add j) = some u := hown.cells (g := g) rfl
      rw [Lib.run_append_grow_string (P := P) w t u ty e i (.int .u8 0) ht hu hi hz ⟨g, 0, none⟩ n cap xs (by rw [hsize]; simpa using hxl) holds s (by omega) (by omega) (by rw [hby]; exact growslice_fits (by omega) (by omega))] at hr
      cases hr
      exact .inr ⟨w.heap.size, rfl, Nat.le_refl _⟩
theorem wpList_append_strAt {P : Program} (w : World) {ops : Array Oper} {rest : List Oper} {o : Oper} {a : Act} {Q : Exit → Act → World → Prop} (hgd : o.guard = none) (sl x : Operand) (t u : TypeId)
    (ho : o.op = .call { callee := .builtin .append, args := #[sl, x], argTypes := #[t, u] })
    (base : Nat) (e : TypeId) (i : TypeInfo) (ht : P.underlying t = some (.slice e)) (hu : P.underlying u = some .string) (hi : P.info? e = some i) (hz : i.zero = some (.int .u8 0))
    (hsize : i.size = 1) (hby : i.bytes = 1)
    (v : Value) (n : Nat) (xs : List Value) (hs : a.eval sl = v) (hown : w.ownsRowF base e 1 v n xs) (s : ByteArray) (hx : a.eval x = .string s)
    (h63 : n + s.size ≤ maxLen) (hbytes : n + s.size ≤ 140737488355328) (hbase : base ≤ w.heap.size)
    (h : ∀ v' w', w'.ownsRowF base e 1 v' (n + s.size) (xs ++ Lib.strCells s) → w.grownBy w' v.ownBlock → (v'.ownBlock = v.ownBlock ∨ ∃ g, v'.ownBlock = some g ∧ w.heap.size ≤ g) → wpList P ops Q rest (a.put o.dst v') w') : wpList P ops Q (o :: rest) a w := by
  refine wpList_plain hgd fun K hK => ?_
  obtain ⟨v', w', hr, h2, h3, h4⟩ := run_append_strAt (P := P) w base t u o.type e i ht hu hi hz hsize hby v n xs hown s h63 hbytes hbase
  unfold Oper.wp execOp
  simp only [ho, resolve, invoke, builtin, Sem.run_bind, Sem.run_pure, Result.andThen_ok, List.map_toArray, List.map_cons, List.map_nil, hs, hx, hr]
  exact hK _ _ (h v' w' h2 h3 h4)

theorem copy_v (B b : Nat) (l : List UInt8) (v : Value) (w : World) (h : BldV B b l v w) :
    Calls Tryz.prog 141 #[.pointer (some ⟨b, 0, none⟩)] w fun e w' => e = .returned (.tuple #[]) ∧ (w'.heap[b]? = some (.cells #[.pointer (some ⟨b, 0, none⟩), v] 150 (0, 0)) ∧ w'.ownsRowF B 5 1 v l.length (bc l) ∧ Wr b v v w w') := by
  have hlt := h.lt
  obtain ⟨hB, p, hp, hb, ho, hn⟩ := h
  rcases hp with rfl | rfl
  · refine (copy_fresh b w (by simp [World.cell?, hb]) (by simp [World.shape?, hb]) (by simp [World.frozen?, hb])).mono ?_
    rintro e w' ⟨rfl, rfl⟩
    have hw : Wr b v v w (w.setCell ⟨b, 0, none⟩ (.pointer (some ⟨b, 0, none⟩))) := Wr.set w _
    refine ⟨rfl, by simp [World.setCell, Array.getElem?_modify, hb], ?_, hw⟩
    exact ho.kept (row := some b) ⟨hw.os, hw.tape, hw.output, hw.size, fun k _ hk => Below.heap_setCell _ _ _ _ (fun e => hk (by simp [e]))⟩ (Or.inr hn)
  · refine (copy_used b w (by simp [World.cell?, hb])).mono ?_
    rintro e w' ⟨rfl, rfl⟩
    exact ⟨rfl, hb, ho, Wr.of (Below.refl _ _)⟩

set_option maxHeartbeats 2000000 in
set_option maxRecDepth 100000 in
theorem writeString_v (B b : Nat) (l : List UInt8) (v : Value) (s : ByteArray) (w : World) (h : BldV B b l v w) (hlen : l.length + s.size ≤ 140737488355328) (hBw : B ≤ w.heap.size) :
    Calls Tryz.prog 101 #[.pointer (some ⟨b, 0, none⟩), .string s] w fun e w' => e = .returned (.tuple #[.int .i64 s.size, .nilIface]) ∧ ∃ v', BldV B b (l ++ s.data.toList) v' w' ∧ Wr b v v' w w' := by
  obtain ⟨i0, hi, hz0, hz1, hz2⟩ := info_parts u8_info
  have hB := h.1
  have HV := hdB (copy_v B b l v w h)
  have hbl : (bc l).length = l.length := by simp
  go_enter Tryz.func101, Tryz.ntmps101
  go_wp2_with (go_at_call 141; refine HV.out.mono ?_)
  rintro e w1 ⟨rfl, hbk, hown, hw1⟩
  have c0 : w1.cell? ⟨b, 0, none⟩ = some (.pointer (some ⟨b, 0, none⟩)) := by rw [Lib.cell_of_heap hbk]; rfl
  have c1 : w1.cell? ⟨b, 1, none⟩ = some v := by rw [Lib.cell_of_heap hbk]; rfl
  go_wp2_with (at_builtin; refine wpList_append_strAt _ rfl _ _ 111 9 rfl B 5 i0 Tryz.underlying111 Tryz.underlying9 hi hz0 hz1 hz2 _ _ _ rfl hown s rfl (by unfold maxLen; omega) (by omega) (by have := hw1.size; omega) ?_)
  intro v' w2 hown' hgrow hat
  have hlt : b < w1.heap.size := heap_ltB hbk
  have hne : v.ownBlock ≠ some b := Lib.ownBlock_neF hown hbk (by decide)
  have hb2 : w2.heap[b]? = some (.cells #[.pointer (some ⟨b, 0, none⟩), v] 150 (0, 0)) := by
    rw [hgrow.block b hlt (fun e => hne e.symm)]
    exact hbk
  have d1 : w2.cell? ⟨b, 1, none⟩ = some v := by rw [Lib.cell_of_heap hb2]; rfl
  have f1 : w2.frozen? ⟨b, 1, none⟩ = false := Lib.frozen_of_heap hb2 1
  obtain ⟨ao, n', cap, rfl⟩ : ∃ ao n' cap, v' = .slice ao n' cap := by
    rcases hown'.2 with ⟨hv, _⟩ | ⟨g, cap, cur, fz, hv, _⟩
    · exact ⟨_, _, _, hv⟩
    · exact ⟨_, _, _, hv⟩
  go_wp2_with fail
  go_ret2
  have e1 : bc (l ++ s.data.toList) = bc l ++ Lib.strCells s := by simp [bc, Lib.strCells]
  have hne' := Lib.ownBlock_neF hown' hb2 (by decide)
  have hw3 : Wr b (.slice ao n' cap) (.slice ao n' cap) w2 (w2.setCell ⟨b, 1, none⟩ (.slice ao n' cap)) := Wr.set w2 _
  refine ⟨rfl, .slice ao n' cap, ⟨hB, _, .inr rfl, by simp [World.setCell, Array.getElem?_modify, hb2], ?_, hne'⟩, (hw1.trans (Wr.grown hgrow hat)).trans hw3⟩
  rw [e1, List.length_append, dataL]
  exact hown'.kept (row := some b) ⟨hw3.os, hw3.tape, hw3.output, hw3.size, fun k _ hk => Below.heap_setCell _ _ _ _ (fun e => hk (by simp [e]))⟩ (Or.inr hne')

set_option maxRecDepth 100000 in
set_option maxHeartbeats 1000000 in
theorem putSized_v (B b : Nat) (l : List UInt8) (v : Value) (s : ByteArray) (w : World) (h : BldV B b l v w) (hs : s.size ≤ 1048576) (hlen : l.length ≤ 70368744177664) (hBw : B ≤ w.heap.size) :
    Calls Tryz.prog 153 #[.pointer (some ⟨b, 0, none⟩), .string s] w fun e w' => e = .returned (.tuple #[]) ∧ ∃ v', BldV B b (l ++ (vb s.size ++ s.data.toList)) v' w' ∧ Wr b v v' w w' := by
  have HV : Hid ((vtext (s.size : Int)).data.toList = vb s.size) := by show _ = _; rw [vtext_in _ (by omega) (by omega)]; simp
  have hvs := vtext_size (s.size : Int)
  have hvl := vb_len s.size
  go_enter Tryz.func153, Tryz.ntmps153
  go_wp2_with fail
  refine (implPut_any _ _).mono ?_
  rintro e w1 ⟨rfl, hb1⟩
  have h1 := h.below hb1
  have hs1 := hb1.size
  go_wp2_with fail
  refine (writeString_v B b l v _ w1 h1 (by omega) (by omega)).mono ?_
  rintro e w2 ⟨rfl, v2, h2, hw2⟩
  rw [HV.out] at h2
  have hs2 := hw2.size
  go_wp2_with fail
  refine (writeString_v B b _ v2 s w2 h2 (by rw [List.length_append]; omega) (by omega)).mono ?_
  rintro e w3 ⟨rfl, v3, h3, hw3⟩
  rw [List.append_assoc] at h3
  go_wp2_with fail
  go_end0
  exact ⟨rfl, v3, h3, ((Wr.of hb1).trans hw2).trans hw3⟩
end Go.Proofs.YtgmfjninimebmaaGreatDoor
namespace Go.Proofs.YtgmfjninimebmaaGreatDoor
open Go.RowKit Go.Maps
set_option linter.unusedVariables false
set_option linter.unusedSimpArgs false

theorem byte_cells : Tryz.prog.cellsOf 5 = 1 := by kernel_rfl
set_option maxHeartbeats 1000000 in
set_option maxRecDepth 100000 in
/-- String of a builder that holds a byte: it and its row are frozen; another builder is as it was. -/
theorem string_v (B b : Nat) (l : List UInt8) (v : Value) (w : World) (h : BldV B b l v w) (h0 : l ≠ []) :
    Calls Tryz.prog 102 #[.pointer (some ⟨b, 0, none⟩)] w fun e w' => e = .returned (.string ⟨l.toArray⟩) ∧ BldV B b l v w' ∧ Wr b v v w w' := by
  have hh := h
  obtain ⟨hB, p, hp, hbk, hown, hne⟩ := h
  have hl0 : l.length ≠ 0 := by simpa using h0
  obtain ⟨g, cap, cur, fz, rfl, hbg, hg, hfz, hnc, hcm, hcs, htake⟩ : ∃ g cap cur fz, v = .slice (some ⟨g, 0, none⟩) l.length cap ∧ B ≤ g ∧ w.heap[g]? = some (.cells cur 5 fz) ∧ fz.2 ≤ l.length * 1 ∧ l.length ≤ cap ∧ cap ≤ maxLen ∧ cur.size = cap * 1 ∧ cur.toList.take (l.length * 1) = bc l := by
    rcases hown.2 with ⟨_, hz⟩ | ⟨g, cap, cur, fz, hv, r⟩
    · exact absurd hz hl0
    · exact ⟨g, cap, cur, fz, hv, r⟩
  have hgb : g ≠ b := fun e => hne (by simp [Value.ownBlock, e])
  have c1 : w.drew.cell? ⟨b, 1, none⟩ = some (.slice (some ⟨g, 0, none⟩) l.length cap) := by
    have : w.drew.heap[b]? = some (.cells #[p, .slice (some ⟨g, 0, none⟩) l.length cap] 150 (0, 0)) := hbk
    rw [Lib.cell_of_heap this]; rfl
  have hSD : (Builtin.unsafeSliceData_ #[111] 194 #[.slice (some ⟨g, 0, none⟩) l.length cap]).run Tryz.prog w.drew = .ok (.pointer (some ⟨g, 0, none⟩)) w.drew :=
    Lib.run_unsafeSliceData_row _ _ _ _ _ _ (by omega)
  have hUS : (Builtin.unsafeString_ #[194, 3] 9 #[.pointer (some ⟨g, 0, none⟩), .int .i64 l.length]).run Tryz.prog w.drew = .ok (.string ⟨l.toArray⟩) (w.drew.freeze ⟨g, 0, none⟩ l.length) := by
    refine Lib.run_unsafeString_row w.drew 194 3 9 5 Tryz.underlying194 byte_cells g cur.size (by have hg' : w.drew.heap[g]? = some (.cells cur 5 fz) := hg; simp [World.shape?, hg']) l h0 (by omega) (by unfold maxLen at hcm; omega) ?_
    intro j x hx
    have := hown.cells (g := g) rfl j (.int .u8 x.toNat) (by simp [bc, hx])
    exact this
  have ho2 : w.ownsRowF B 5 1 (.slice (some ⟨g, 0, none⟩) l.length cap) (bc l).length (bc l) := by simpa using hown
  have hA0 : Lib.BuilderAtF 150 5 B b p (bc l) w := ⟨hB, _, hbk, ho2, hne⟩
  have hA := hA0.drew
  have hF := hA.froze (g := g) (cap := cap) (by simpa using c1)
  have hkb : (w.drew.freeze ⟨g, 0, none⟩ l.length).heap[b]? = w.heap[b]? := by
    unfold World.freeze
    rw [if_neg (by simpa using hl0)]
    simp only [Array.getElem?_modify]
    rw [if_neg hgb]
    rfl
  have HK : Hid (BldV B b l (.slice (some ⟨g, 0, none⟩) l.length cap) (w.drew.freeze ⟨g, 0, none⟩ l.length)) := by
    obtain ⟨_, v', hb', ho', hn'⟩ := hF
    simp only [List.length_map] at hb' ho'
    rw [hkb, hbk] at hb'
    cases hb'
    exact ⟨hB, p, hp, hkb.trans hbk, ho', hn'⟩
  have HW : Hid (Wr b (.slice (some ⟨g, 0, none⟩) l.length cap) (.slice (some ⟨g, 0, none⟩) l.length cap) w (w.drew.freeze ⟨g, 0, none⟩ l.length)) := by
    have hb2 := Lib.below_freeze (B := g) (Below.drew (Below.refl g w)) (p := ⟨g, 0, none⟩) (Nat.le_refl _) l.length
    refine ⟨hb2.os, hb2.tape, hb2.output, hb2.size, fun k hk _ hv => ?_, .inl rfl⟩
    unfold World.freeze
    rw [if_neg (by simpa using hl0)]
    simp only [Array.getElem?_modify]
    rw [if_neg (fun e => hv (by simp [Value.ownBlock, e]))]
    rfl
  have mixed : Tryz.prog.follows .mixedOrders = true := by kernel_rfl
  clear hF hA hA0 ho2 hh hkb htake hcs hcm hnc hfz hg hbg hne hown
  go_enter Tryz.func102, Tryz.ntmps102
  go_wp2
  go_region_o
  all_goals (go_wp2; go_ret; exact ⟨rfl, HK.out, HW.out⟩)
end Go.Proofs.YtgmfjninimebmaaGreatDoor
namespace Go.Proofs.YtgmfjninimebmaaGreatDoor
open Go.RowKit Go.Maps
set_option linter.unusedVariables false
set_option linter.unusedSimpArgs false

set_option maxRecDepth 100000 in
set_option maxHeartbeats 1000000 in
/-- What the index says of a block, written into one of two builders. -/
theorem putBlockRef_v (B b : Nat) (l : List UInt8) (v : Value) (pg : Nat) (a : Option Addr) (cap : Nat) (xs : List En) (w : World) (h : BldV B b l v w) (hx : LieE w a xs) (hxB : ∀ g o, a = some ⟨g, o, none⟩ → g < B) (h0 : 0 < xs.length) (hn : xs.length ≤ 1000) (hk : ∀ e ∈ xs, e.ky.size ≤ 1000) (hpg : pg ≤ 72057594037927935) (hlen : l.length ≤ 70368744100000) (hBw : B ≤ w.heap.size) :
    Calls Tryz.prog 124 #[.pointer (some ⟨b, 0, none⟩), .int .i64 pg, .slice a xs.length cap] w fun e w' => e = .returned (.tuple #[]) ∧ ∃ v', BldV B b (l ++ (vb pg ++ vb xs.length ++ kyB (xs.getD 0 en0).ky ++ kyB (xs.getD (xs.length - 1) en0).ky)) v' w' ∧ Wr b v v' w w' := by
  have HV1 : Hid ((vtext (pg : Int)).data.toList = vb pg) := by show _ = _; rw [vtext_in _ (by omega) (by omega)]; simp
  have HV2 : Hid ((vtext (xs.length : Int)).data.toList = vb xs.length) := by show _ = _; rw [vtext_in _ (by omega) (by omega)]; simp
  have hv1 := vtext_size (pg : Int)
  have hv2 := vtext_size (xs.length : Int)
  have hw1 := vb_len pg
  have hw2 := vb_len xs.length
  obtain ⟨g, off, rfl, hgl, c0, -, -, -⟩ := hx.at (i := 0) h0
  obtain ⟨g', off', e, -, d0, -, -, -⟩ := hx.at (i := xs.length - 1) (by omega)
  cases e
  have hgB := hxB g off rfl
  have hz0 : (xs.getD 0 en0).ky.size ≤ 1000 := by
    have : xs.getD 0 en0 = xs[0] := by simp [List.getD, h0]
    rw [this]
    exact hk _ (List.getElem_mem h0)
  have hz1 : (xs.getD (xs.length - 1) en0).ky.size ≤ 1000 := by
    have hlt : xs.length - 1 < xs.length := by omega
    have : xs.getD (xs.length - 1) en0 = xs[xs.length - 1] := by simp [List.getD, hlt]
    rw [this]
    exact hk _ (List.getElem_mem hlt)
  rw [Nat.zero_mul, Nat.add_zero] at c0
  generalize (xs.getD 0 en0).ky = y0 at *
  generalize (xs.getD (xs.length - 1) en0).ky = y1 at *
  have hsub : ((xs.length : Int) - 1).toNat = xs.length - 1 := by omega
  have hws : IntKind.i64.wrap ((xs.length : Int) - 1) = (xs.length : Int) - 1 := by rw [IntKind.wrap_i64]; omega
  have hp0 : (0 : Int) ≤ (xs.length : Int) - 1 := by omega
  have hp1 : (xs.length : Int) - 1 < xs.length := by omega
  have hp2 : (0 : Int) < xs.length := by omega
  have hy0 := vb_len y0.size
  have hdl := dataL y0
  have hbB := h.1
  have hrow := fun g hg => (h.rowLt g hg).1
  go_enter Tryz.func124, Tryz.ntmps124
  go_wp2_with fail
  refine (implPut_any _ _).mono ?_
  rintro e w1 ⟨rfl, hb1⟩
  have h1 := h.below hb1
  have hs1 := hb1.size
  go_wp2_with fail
  refine (writeString_v B b l v _ w1 h1 (by omega) (by omega)).mono ?_
  rintro e w2 ⟨rfl, v2, h2, hr2⟩
  rw [HV1.out] at h2
  have hs2 := hr2.size
  go_wp2_with fail
  refine (implPut_any _ _).mono ?_
  rintro e w3 ⟨rfl, hb3⟩
  have h3 := h2.below hb3
  have hs3 := hb3.size
  go_wp2_with fail
  refine (writeString_v B b _ v2 _ w3 h3 (by rw [List.length_append]; omega) (by omega)).mono ?_
  rintro e w4 ⟨rfl, v4, h4, hr4⟩
  rw [HV2.out] at h4
  have hs4 := hr4.size
  have hR4 : Wr b v v4 w w4 := (((Wr.of hb1).trans hr2).trans (Wr.of hb3)).trans hr4
  have hB4 : Below B w w4 := hR4.below hbB hrow hBw
  have f0 := (hB4.cell (p := ⟨g, _, none⟩) hgB).trans c0
  go_wp2_with fail
  refine (putSized_v B b _ v4 y0 w4 h4 (by omega) (by simp only [List.length_append]; omega) (by omega)).mono ?_
  rintro e w5 ⟨rfl, v5, h5, hr5⟩
  have hR5 := hR4.trans hr5
  have hB5 : Below B w w5 := hR5.below hbB hrow hBw
  have hs5 := hr5.size
  have f1 := (hB5.cell (p := ⟨g, _, none⟩) hgB).trans d0
  go_wp2_with fail
  refine (putSized_v B b _ v5 y1 w5 h5 (by omega) (by simp only [List.length_append]; omega) (by omega)).mono ?_
  rintro e w6 ⟨rfl, v6, h6, hr6⟩
  go_wp2_with fail
  go_end0
  exact ⟨rfl, v6, by simpa [kyB] using h6, hR5.trans hr6⟩
end Go.Proofs.YtgmfjninimebmaaGreatDoor
namespace Go.Proofs.YtgmfjninimebmaaGreatDoor
open Go.RowKit Go.Maps Go.Shelf
attribute [local go_sem] Oper.semAt_some
set_option linter.unusedVariables false
set_option linter.unusedSimpArgs false

/-- A block of xs, by its place. -/
structure Bk (xs : List En) where
  k : Nat
  lt : 8 * k < xs.length
def Bk.len {xs : List En} (x : Bk xs) : Nat := (subE xs x.k).length
def Bk.val {xs : List En} (a : Option Addr) (x : Bk xs) : Value := match a with
  | some c => .slice (some ⟨c.block, c.off + 8 * x.k * 4, none⟩) x.len x.len
  | none => .slice none 0 0
/-- What a round keeps: what lies below n0, and the two boxes. -/
structure KC (n0 bs bn : Nat) (W W' : World) : Prop where
  bel : Below n0 W W'
  hs : W'.heap[bs]? = W.heap[bs]?
  hn : W'.heap[bn]? = W.heap[bn]?
theorem KC.trans {n0 bs bn : Nat} {A B C : World} (h : KC n0 bs bn A B) (k : KC n0 bs bn B C) : KC n0 bs bn A C := ⟨h.bel.trans k.bel, k.hs.trans h.hs, k.hn.trans h.hn⟩
theorem KC.of {n0 bs bn : Nat} {W W' : World} (h : Below W.heap.size W W') (hn : n0 ≤ W.heap.size) (h1 : bs < W.heap.size) (h2 : bn < W.heap.size) : KC n0 bs bn W W' := ⟨h.mono hn, h.block _ h1, h.block _ h2⟩
theorem KC.put {n0 bs bn : Nat} {w : World} (hn : n0 ≤ w.heap.size) (h1 : bs < w.heap.size) (h2 : bn < w.heap.size) (W : World) (l : Nat) (o o' : Obj) (hl : w.heap.size ≤ l) (h : W.heap[l]? = some o) (hc : o.isCells = false) (hw : o.isWalk = false) : KC n0 bs bn W (W.putObj l o') :=
  ⟨⟨rfl, rfl, rfl, by simp, fun k hk => World.putObj_heap_other (by omega)⟩, World.putObj_heap_other (by omega), World.putObj_heap_other (by omega)⟩
theorem KC.wr {n0 bs bn b : Nat} {v v' : Value} {W W' : World} (h : Wr b v v' W W') (h0 : n0 ≤ b) (hr : ∀ g, v.ownBlock = some g → n0 ≤ g) (hn : n0 ≤ W.heap.size) (h1 : bs < W.heap.size) (h2 : bn < W.heap.size) (h3 : bs ≠ b) (h4 : bn ≠ b) (h5 : v.ownBlock ≠ some bs) (h6 : v.ownBlock ≠ some bn) : KC n0 bs bn W W' :=
  ⟨h.below h0 hr hn, h.block _ h1 h3 (fun e => h5 e.symm), h.block _ h2 h4 (fun e => h6 e.symm)⟩
theorem cell_ofB {W W' : World} {b o : Nat} (h : W'.heap[b]? = W.heap[b]?) : W'.cell? ⟨b, o, none⟩ = W.cell? ⟨b, o, none⟩ := by simp only [World.cell?, h]

set_option maxRecDepth 100000 in
set_option maxHeartbeats 1000000 in
theorem chunk1_in (n : Nat) (hn : 1 ≤ n) (l bs bn n₀ cap : Nat) (a : Option Addr) (xs : List En) (ha : 0 < xs.length → ∃ b off, a = some ⟨b, off, none⟩) (hlen : xs.length ≤ 1048576) (hcap : xs.length ≤ cap) (J Jx : List (Bk xs) → World → Prop) (W0 : World) (hJ : AbidesFrom W0.heap.size J) (Kp : World → World → Prop) (hKp : ∀ A B, Kp A B → KC n₀ bs bn A B)
    (hY : ∀ pre (x : Bk xs) W, J pre W → pre.length < nbE xs.length → YieldAt Fence.wide (n - 1) Tryz.prog l #[x.val a] W fun e W' =>
      (e = .returned (.bool true) ∧ J (pre ++ [x]) W' ∧ Kp W W') ∨ (e = .returned (.bool false) ∧ Jx (pre ++ [x]) W'))
    (hbs : W0.cell? ⟨bs, 0, none⟩ = some (.slice a xs.length cap)) (hbn : W0.cell? ⟨bn, 0, none⟩ = some (.int .i64 8)) (h0 : J [] W0) :
    CallsIn Fence.wide n Tryz.prog 152 #[.func (.yield l) #[] #[], .pointer (some ⟨bs, 0, none⟩), .pointer (some ⟨bn, 0, none⟩)] W0 fun e W' => (∃ v, e = .returned v) ∧
      ((∃ ys : List (Bk xs), ys.map Bk.k = List.range (nbE xs.length) ∧ J ys W') ∨ (∃ pre, Jx pre W')) := by
  replace hY := hdB hY
  refine callsIn_of_wp Tryz.func152 rfl trivial ?_ rfl
  simp only [Tryz.ntmps152, List.size_toArray, List.length_cons, List.length_nil, Nat.reduceAdd, Nat.reduceSub, Array.replicate_succ, Array.replicate_zero, List.push_toArray, List.append_toArray, List.nil_append, List.cons_append]
  gi_wp2
  gi_loopw [4] (fun r wr => ∃ (pre : List (Bk xs)) (p f : Nat), r = .int .i64 f ∧ Hid (f = 8 * p) ∧ Hid (pre.map Bk.k = List.range p) ∧ p ≤ nbE xs.length ∧ J pre wr ∧ wr.cell? ⟨bs, 0, none⟩ = some (.slice a xs.length cap) ∧ wr.cell? ⟨bn, 0, none⟩ = some (.int .i64 8)) (fun r _ => xs.length + 8 - (intOf r).toNat)
  case atStart => exact ⟨[], 0, 0, rfl, rfl, rfl, Nat.zero_le _, h0, hbs, hbn⟩
  case round =>
    obtain ⟨pre, p, f, rfl, HF, HP, hp, hJr, hcs, hcn⟩ := hrel
    have hf8 := HF.out
    by_cases hlt : f < xs.length
    · obtain ⟨b, off, rfl⟩ := ha (by omega)
      have hlt' : (f : Int) < xs.length := by omega
      have hplen : Hid (pre.length < nbE xs.length) := by
        have e := congrArg List.length HP.out
        simp only [List.length_map, List.length_range] at e
        show _ < _
        unfold nbE
        omega
      obtain ⟨x, hx⟩ : ∃ x : Bk xs, x.k = p := ⟨⟨p, by omega⟩, rfl⟩
      have hel : x.len = min 8 (xs.length - f) := by unfold Bk.len; rw [hx, subE_len, ← hf8]
      have hval : x.val (some ⟨b, off, none⟩) = .slice (some ⟨b, off + f * 4, none⟩) x.len x.len := by show Value.slice (some ⟨b, off + 8 * x.k * 4, none⟩) x.len x.len = _; rw [hx, ← hf8]
      have HP' : Hid ((pre ++ [x]).map Bk.k = List.range (p + 1)) := by show _ = _; rw [List.map_append, HP.out, List.range_succ]; simp [hx]
      have hp1 : p + 1 ≤ nbE xs.length := by unfold nbE; omega
      have HY := hdB (hY.out pre x)
      rw [hval] at HY
      clear hx hval hY
      generalize x.len = e at *
      have he1 : (f : Int) + e ≤ xs.length := by omega
      have he2 : (f : Int) + e ≤ cap := by omega
      have he3 : f ≤ xs.length := by omega
      have he4 : ¬ e = 0 := by omega
      have he5 : 0 < e := by omega
      have hmin : Hid (min (8 : Int) ((xs.length - f : Nat) : Int) = (e : Int)) := by show _ = _; omega
      have HF' : Hid (f + 8 = 8 * (p + 1)) := by show _ = _; omega
      clear hf8 hel
      gi_wp2
      gi_region
      rw [hmin.out]
      obtain ⟨fn, tmps, assign, body, hy, hR⟩ := HY.out wr.drew (hJ pre wr wr.drew none hJr ⟨rfl, rfl, rfl, Nat.le_refl _, fun _ _ _ => rfl⟩ (fun r e => by cases e)) hplen.out
      gi_wp2
      refine hR.mono ?_
      rintro e W3 (⟨rfl, hJ3, hk3⟩ | ⟨rfl, hJx3⟩)
      · have hF := hKp _ _ hk3
        have hc3 : W3.cell? ⟨bs, 0, none⟩ = some (.slice (some ⟨b, off, none⟩) xs.length cap) := (cell_ofB hF.hs).trans hcs
        have hn3 : W3.cell? ⟨bn, 0, none⟩ = some (.int .i64 8) := (cell_ofB hF.hn).trans hcn
        clear hcs hcn hbs hbn ha
        gi_wp2
        refine ⟨⟨pre ++ [x], p + 1, f + 8, by simp, HF', HP', hp1, hJ3, hc3, hn3⟩, ?_⟩
        simp only [intOf]
        omega
      · gi_wp2
        refine bodyPost_ret (results_none rfl _ _ _) rfl ?_
        exact ⟨⟨_, rfl⟩, .inr ⟨_, hJx3⟩⟩
    · have hlt' : ¬ (f : Int) < xs.length := by omega
      have hpe : p = nbE xs.length := by unfold nbE at *; omega
      subst hpe
      gi_wp2
      go_end0
      exact ⟨⟨_, rfl⟩, .inl ⟨_, HP.out, hJr⟩⟩

/-- slices.Chunk: the function value that yields the blocks. -/
theorem chunk_in (F : Fence) (n : Nat) (h5 : F.fn 122) (hro : F.round = none) (a : Option Addr) (len cap : Nat) (w : World) :
    CallsIn F n Tryz.prog 122 #[.slice a len cap, .int .i64 8] w fun e w' => e = .returned (.func (.func 152) #[] #[.pointer (some ⟨w.heap.size, 0, none⟩), .pointer (some ⟨w.heap.size + 1, 0, none⟩)]) ∧ w' = (w.alloc (.cells #[.slice a len cap] 26)).alloc (.cells #[.int .i64 8] 3) := by
  refine callsIn_of_wp Tryz.func122 rfl h5 ?_ hro
  simp only [Tryz.ntmps122, List.size_toArray, List.length_cons, List.length_nil, Nat.reduceAdd, Nat.reduceSub, Array.replicate_succ, Array.replicate_zero, List.push_toArray, List.append_toArray, List.nil_append, List.cons_append]
  gi_wp2
  go_ret
  exact ⟨rfl, rfl⟩
theorem chunk_stops (n : Nat) (hn : 1 ≤ n) (bs bn n₀ cap : Nat) (a : Option Addr) (xs : List En) (ha : 0 < xs.length → ∃ b off, a = some ⟨b, off, none⟩) (hlen : xs.length ≤ 1048576) (hcap : xs.length ≤ cap) (w : World) (h1 : bs < w.heap.size) (h2 : bn < w.heap.size)
    (hcs : w.cell? ⟨bs, 0, none⟩ = some (.slice a xs.length cap)) (hcn : w.cell? ⟨bn, 0, none⟩ = some (.int .i64 8)) :
    SeqStopsK Fence.wide n Tryz.prog 152 #[.pointer (some ⟨bs, 0, none⟩), .pointer (some ⟨bn, 0, none⟩)] (fun x : Bk xs => #[x.val a]) (KC n₀ bs bn) (fun ys => ys.map Bk.k = List.range (nbE xs.length)) (fun _ => True) (nbE xs.length) w := fun l J Jx W hW hJ _ hY h0 =>
  (chunk1_in n hn l bs bn n₀ cap a xs ha hlen hcap J Jx W hJ (KC n₀ bs bn) (fun _ _ h => h) hY ((hW.cell (p := ⟨bs, 0, none⟩) h1).trans hcs) ((hW.cell (p := ⟨bn, 0, none⟩) h2).trans hcn) h0).mono fun e W' ⟨h, k⟩ => ⟨h, k.imp (fun k => k) (fun ⟨pre, k⟩ => ⟨pre, trivial, k⟩)⟩
end Go.Proofs.YtgmfjninimebmaaGreatDoor
