import Derived.Test.YtohpfjpgihcmiaaGreatDoorPsO

namespace Go.Proofs.YtohpfjpgihcmiaaGreatDoor
open Go.RowKit Go.Maps
set_option linter.unusedVariables false
set_option linter.unusedSimpArgs false

theorem l7Num_any (x : ByteArray) (w : World) (hs : x.size ≤ 1048576) :
    Calls Tryz.prog 11 #[.string x] w fun e w' => ∃ v : Int, e = .returned (.tuple #[.int .i64 v, .bool (nuM x).isSome]) ∧ (∀ u, nuM x = some u → v = u) ∧ Below w.heap.size w w' := by
  refine (l7Number_any x w hs).mono ?_
  rintro e w' ⟨rfl, hb⟩
  have e1 : nuM x = if (nuS x.data.toList).2 = true then some (nuS x.data.toList).1 else none := (numM_S _).trans (nuS_S _)
  refine ⟨(nuS x.data.toList).1, ?_, fun u hu => ?_, hb⟩
  · rw [e1]
    cases (nuS x.data.toList).2 <;> rfl
  · rw [e1] at hu
    split at hu
    · cases hu; rfl
    · cases hu
theorem l7Wor_any (x : ByteArray) (w : World) (hs : x.size ≤ 1048576) :
    Calls Tryz.prog 24 #[.string x] w fun e w' => ∃ v : ByteArray, e = .returned (.tuple #[.string v, .bool (woO x).isSome]) ∧ (∀ u, woO x = some u → v = u) ∧ Below w.heap.size w w' := by
  refine (l7Word_any x w hs).mono ?_
  rintro e w' ⟨rfl, hb⟩
  have e1 := woS_O x
  refine ⟨(woS x).1, ?_, fun u hu => ?_, hb⟩
  · rw [e1]
    cases (woS x).2 <;> rfl
  · rw [e1] at hu
    split at hu
    · cases hu; rfl
    · cases hu
/-- The model's state while it reads a line. -/
structure OpS (w W : World) (R S b off : Nat) (r : List ByteArray) (B : Nat) (kd n : Int) (vb vk : Value) : Prop where
  hb : Below w.heap.size w W
  hR : OpC W R 0 ⟨#[]⟩ ⟨#[]⟩ 0 (.slice none 0 0) (.slice none 0 0)
  hS : OpC W S kd ⟨#[]⟩ ⟨#[]⟩ n vb vk
  hl : LieP W (some ⟨b, off, none⟩) r
  hB : B ≤ W.heap.size
  hRB : R < B
  hSB : S < B
  hbB : b < B
theorem OpS.below {w W W' : World} {R S b off : Nat} {r : List ByteArray} {B : Nat} {kd n : Int} {vb vk : Value} (h : OpS w W R S b off r B kd n vb vk) (hb : Below W.heap.size W W') : OpS w W' R S b off r B kd n vb vk :=
  ⟨h.hb.trans (hb.mono h.hb.size), (hb.block R (Nat.lt_of_lt_of_le h.hRB h.hB)).trans h.hR, (hb.block S (Nat.lt_of_lt_of_le h.hSB h.hB)).trans h.hS, h.hl.below hb, Nat.le_trans h.hB hb.size, h.hRB, h.hSB, h.hbB⟩
theorem OpS.set {w W : World} {R S b off : Nat} {r : List ByteArray} {B : Nat} {kd n n' : Int} {vb vk vb' vk' : Value} {o : Nat} {v : Value} (h : OpS w W R S b off r B kd n vb vk) (hRS : R ≠ S) (hbS : b ≠ S) (hw : w.heap.size ≤ S) (hn : OpC (W.setCell ⟨S, o, none⟩ v) S kd ⟨#[]⟩ ⟨#[]⟩ n' vb' vk') : OpS w (W.setCell ⟨S, o, none⟩ v) R S b off r B kd n' vb' vk' := by
  have hset : ∀ k, k ≠ S → (W.setCell ⟨S, o, none⟩ v).heap[k]? = W.heap[k]? := fun k hk => Below.heap_setCell _ _ _ _ (by simpa using hk)
  have hss : (W.setCell ⟨S, o, none⟩ v).heap.size = W.heap.size := by simp [World.setCell]
  exact ⟨belowSet h.hb hw, (hset R hRS).trans h.hR, hn, h.hl.block (hset b hbS) (by omega), by have := h.hB; omega, h.hRB, h.hSB, h.hbB⟩
theorem OpS.grown {w W W8 : World} {R S b off : Nat} {r : List ByteArray} {B : Nat} {kd n : Int} {vb vk v : Value} {m size : Nat} {e : TypeId} {xs : List Value} {o : Obj} (h : OpS w W R S b off r B kd n vb vk) (hr : W.ownsRow B e size v m xs) (hg : (W.alloc o).grownBy W8 v.ownBlock) (hw : w.heap.size ≤ B) : OpS w W8 R S b off r B kd n vb vk := by
  have hB := h.hB
  have hs8 : W.heap.size ≤ W8.heap.size := by have := hg.size; rw [size_alloc] at this; omega
  have hbl : ∀ k, k < B → W8.heap[k]? = W.heap[k]? := fun k hkB => by
    refine (hg.block k (by rw [size_alloc]; omega) (fun e => ?_)).trans (heap_alloc_oldH W o k (by omega))
    have := owns_base hr k e.symm
    omega
  exact ⟨grow_below h.hb hr hg hw hB, (hbl R h.hRB).trans h.hR, (hbl S h.hSB).trans h.hS, h.hl.block (hbl b h.hbB) hs8, by omega, h.hRB, h.hSB, h.hbB⟩
/-- One letter of the model's word for what follows. -/
def stepG (c : UInt8) (x : ByteArray) (st : List ByteArray × Int) : Option (List ByteArray × Int) := if c = 110 then (nuM x).map fun n => (st.1, n) else (woO x).map fun a => (st.1 ++ [a], st.2)
def foldG : List (UInt8 × ByteArray) → List ByteArray × Int → Option (List ByteArray × Int)
  | [], st => some st
  | p :: r, st => (stepG p.1 p.2 st).bind (foldG r)
theorem foldG_app (a b : List (UInt8 × ByteArray)) (st : List ByteArray × Int) : foldG (a ++ b) st = (foldG a st).bind (foldG b) := by
  induction a generalizing st with
  | nil => rfl
  | cons p a ih =>
    rw [List.cons_append, foldG, foldG]
    cases stepG p.1 p.2 st with
    | none => rfl
    | some u => exact ih u
def opG (k : Int) (g : ByteArray) (r : List ByteArray) : Option OpV := if r.length = g.size then (foldG (g.data.toList.zip r) ([], 0)).map fun st => ⟨k, st.1.getD 0 ⟨#[]⟩, st.1.getD 1 ⟨#[]⟩, st.2, [], []⟩ else none
theorem opR_G (c : Nat) (hc : c ≤ 4) (k : Int) (r : List ByteArray) : opR c k r = opG k (shB c) r := by
  match c, hc with
  | 0, _ =>
    match r with
    | [] => rfl
    | x :: r => rfl
  | 1, _ =>
    match r with
    | [] => rfl
    | [x] => show _ = Option.map _ ((stepG 119 x ([], 0)).bind _); cases hx : woO x <;> simp [opR, stepG, foldG, hx]
    | x :: y :: r => show none = _; unfold opG; rw [if_neg]; simp [shB, ByteArray.size]
  | 2, _ =>
    match r with
    | [] => rfl
    | [x] => rfl
    | [x, y] => show _ = Option.map _ ((stepG 119 x ([], 0)).bind _); cases hx : woO x <;> cases hy : woO y <;> simp [opR, stepG, foldG, hx, hy]
    | x :: y :: z :: r => show none = _; unfold opG; rw [if_neg]; simp [shB, ByteArray.size]
  | 3, _ =>
    match r with
    | [] => rfl
    | [x] => show _ = Option.map _ ((stepG 110 x ([], 0)).bind _); cases hx : nuM x <;> simp [opR, stepG, foldG, hx]
    | x :: y :: r => show none = _; unfold opG; rw [if_neg]; simp [shB, ByteArray.size]
  | 4, _ =>
    match r with
    | [] => rfl
    | [x] => rfl
    | [x, y] => rfl
    | [x, y, z] => show _ = Option.map _ ((stepG 119 x ([], 0)).bind _); cases hx : woO x <;> cases hy : nuM y <;> cases hz : woO z <;> simp [opR, stepG, foldG, hx, hy, hz]
    | x :: y :: z :: u :: r => show none = _; unfold opG; rw [if_neg]; simp [shB, ByteArray.size]
theorem zip_take (l : List UInt8) (r : List ByteArray) (k : Nat) (h1 : k < l.length) (h2 : k < r.length) : (l.zip r).take (k + 1) = (l.zip r).take k ++ [(l.getD k 0, r.getD k ByteArray.empty)] := by
  have h3 : k < (l.zip r).length := by simp; omega
  have e : (l.zip r)[k]? = some (l.getD k 0, r.getD k ByteArray.empty) := by
    rw [List.getElem?_eq_getElem h3]
    simp [List.getD, h1, h2]
  rw [List.take_add_one, e]
  rfl
theorem foldG_step {l : List UInt8} {r : List ByteArray} {k : Nat} {st : List ByteArray × Int} (h : foldG ((l.zip r).take k) ([], 0) = some st) (h1 : k < l.length) (h2 : k < r.length) : foldG ((l.zip r).take (k + 1)) ([], 0) = stepG (l.getD k 0) (r.getD k ByteArray.empty) st := by
  rw [zip_take l r k h1 h2, foldG_app, h]
  show (stepG _ _ st).bind (foldG []) = _
  cases stepG (l.getD k 0) (r.getD k ByteArray.empty) st <;> rfl
theorem foldG_bad {l : List UInt8} {r : List ByteArray} {k : Nat} (h : foldG ((l.zip r).take k) ([], 0) = none) : foldG (l.zip r) ([], 0) = none := by
  rw [← List.take_append_drop k (l.zip r), foldG_app, h]
  rfl
theorem opFin {w W : World} {B : Nat} (hb : Below w.heap.size w W) (hR : OpC W w.heap.size 0 ⟨#[]⟩ ⟨#[]⟩ 0 (.slice none 0 0) (.slice none 0 0)) (hRB : w.heap.size < B) (x0 x1 x2 x3 x4 x5 : Value) :
    Below w.heap.size w ((((((W.setCell ⟨w.heap.size, 0, none⟩ x0).setCell ⟨w.heap.size, 1, none⟩ x1).setCell ⟨w.heap.size, 2, none⟩ x2).setCell ⟨w.heap.size, 3, none⟩ x3).setCell ⟨w.heap.size, 4, none⟩ x4).setCell ⟨w.heap.size, 5, none⟩ x5) ∧ ((((((W.setCell ⟨w.heap.size, 0, none⟩ x0).setCell ⟨w.heap.size, 1, none⟩ x1).setCell ⟨w.heap.size, 2, none⟩ x2).setCell ⟨w.heap.size, 3, none⟩ x3).setCell ⟨w.heap.size, 4, none⟩ x4).setCell ⟨w.heap.size, 5, none⟩ x5).heap[w.heap.size]? = some (.cells #[x0, x1, x2, x3, x4, x5] 38 (0, 0)) ∧
    ∀ o ba bk, RowsO W B ba bk o → RowsO ((((((W.setCell ⟨w.heap.size, 0, none⟩ x0).setCell ⟨w.heap.size, 1, none⟩ x1).setCell ⟨w.heap.size, 2, none⟩ x2).setCell ⟨w.heap.size, 3, none⟩ x3).setCell ⟨w.heap.size, 4, none⟩ x4).setCell ⟨w.heap.size, 5, none⟩ x5) w.heap.size ba bk o :=
  ⟨belowSet (belowSet (belowSet (belowSet (belowSet (belowSet hb (Nat.le_refl _)) (Nat.le_refl _)) (Nat.le_refl _)) (Nat.le_refl _)) (Nat.le_refl _)) (Nat.le_refl _), set6 hR, fun o ba bk hr => ((((((hr.set hRB).set hRB).set hRB).set hRB).set hRB).set hRB).down (Nat.le_of_lt hRB)⟩
theorem OpS.fin {w W : World} {S b off : Nat} {r : List ByteArray} {B : Nat} {kd n : Int} {vb vk : Value} (h : OpS w W w.heap.size S b off r B kd n vb vk) (x0 x1 x2 x3 x4 x5 : Value) :
    Below w.heap.size w ((((((W.setCell ⟨w.heap.size, 0, none⟩ x0).setCell ⟨w.heap.size, 1, none⟩ x1).setCell ⟨w.heap.size, 2, none⟩ x2).setCell ⟨w.heap.size, 3, none⟩ x3).setCell ⟨w.heap.size, 4, none⟩ x4).setCell ⟨w.heap.size, 5, none⟩ x5) ∧ ((((((W.setCell ⟨w.heap.size, 0, none⟩ x0).setCell ⟨w.heap.size, 1, none⟩ x1).setCell ⟨w.heap.size, 2, none⟩ x2).setCell ⟨w.heap.size, 3, none⟩ x3).setCell ⟨w.heap.size, 4, none⟩ x4).setCell ⟨w.heap.size, 5, none⟩ x5).heap[w.heap.size]? = some (.cells #[x0, x1, x2, x3, x4, x5] 38 (0, 0)) ∧
    ∀ o ba bk, RowsO W B ba bk o → RowsO ((((((W.setCell ⟨w.heap.size, 0, none⟩ x0).setCell ⟨w.heap.size, 1, none⟩ x1).setCell ⟨w.heap.size, 2, none⟩ x2).setCell ⟨w.heap.size, 3, none⟩ x3).setCell ⟨w.heap.size, 4, none⟩ x4).setCell ⟨w.heap.size, 5, none⟩ x5) w.heap.size ba bk o := opFin h.hb h.hR h.hRB x0 x1 x2 x3 x4 x5
theorem OpS.fin1 {w W : World} {S b off : Nat} {r : List ByteArray} {B o : Nat} {u : Value} {kd n : Int} {vb vk : Value} (h : OpS w W w.heap.size S b off r B kd n vb vk) (hRS : w.heap.size ≠ S) (hw : w.heap.size ≤ S) : Below w.heap.size w (W.setCell ⟨S, o, none⟩ u) ∧ OpC (W.setCell ⟨S, o, none⟩ u) w.heap.size 0 ⟨#[]⟩ ⟨#[]⟩ 0 (.slice none 0 0) (.slice none 0 0) :=
  ⟨belowSet h.hb hw, (Below.heap_setCell _ _ _ _ (by simpa using hRS)).trans h.hR⟩
set_option maxRecDepth 100000 in
set_option maxHeartbeats 16000000 in
theorem l7Op_no (s : ByteArray) (w : World) (hs : s.size ≤ 1048576) (hi : ¬ kI (hd0 (cutB 32 s)) < 17) :
    Calls Tryz.prog 12 #[.string s] w fun e w' => ∃ (o : OpV) (ba bk : Value), e = .returned (.tuple #[opA o ba bk, .bool (opM s).isSome]) ∧ (∀ v, opM s = some v → o = v ∧ RowsO w' w.heap.size ba bk o) ∧ Below w.heap.size w w' ∧ (∃ a n c, ba = .slice a n c) ∧ (∃ a n c, bk = .slice a n c) := by
  have hb0 : Below w.heap.size w (w.alloc (.cells #[.int .i64 0, .string ⟨#[]⟩, .string ⟨#[]⟩, .int .i64 0, .slice none 0 0, .slice none 0 0] 38)) := (Below.refl _ _).alloc (Nat.le_refl _) _
  have hR0 : OpC (w.alloc (.cells #[.int .i64 0, .string ⟨#[]⟩, .string ⟨#[]⟩, .int .i64 0, .slice none 0 0, .slice none 0 0] 38)) w.heap.size 0 ⟨#[]⟩ ⟨#[]⟩ 0 (.slice none 0 0) (.slice none 0 0) := World.heap_alloc_new _ _
  have HC := hdN (fun (w' : World) => l7Cut_any s 32 w' hs)
  have HZ := hdN (cut_sizes 32 s hs)
  have HL : Hid ((cutB 32 s).length ≤ 1048577) := by have := cutB_len 32 s; show _ ≤ _; omega
  have hne : cutB 32 s ≠ [] := by unfold cutB; simp [cutL_ne]
  have HM : Hid (opM s = if kI (hd0 (cutB 32 s)) < 17 then opR (kS.getD (kI (hd0 (cutB 32 s))) 0) ((kI (hd0 (cutB 32 s)) : Int) + 1) (cutB 32 s).tail else none) := rfl
  generalize cutB 32 s = ps at *
  generalize opM s = res at *
  cases ps with
  | nil => exact absurd rfl hne
  | cons x r =>
    clear hne
    have HK := hdN (fun (w' : World) => l7Kind_any x w' (HZ.out x (by simp)))
    simp only [hd0, List.headD_cons, List.tail_cons, List.length_cons] at *
    have hs0 := size_alloc w (.cells #[.int .i64 0, .string ⟨#[]⟩, .string ⟨#[]⟩, .int .i64 0, .slice none 0 0, .slice none 0 0] 38)
    have HI := hdN hi
    clear hi
    go_enter Tryz.func12, Tryz.ntmps12
    go_wp2_with fail
    refine (HC.out _).mono ?_
    rintro e w1 ⟨a, cap, rfl, hcap, hl1, hb1⟩
    have hs1 : w.heap.size + 1 ≤ w1.heap.size := by have := hb1.size; omega
    rw [hs0] at hb1
    have hR1 : OpC w1 w.heap.size _ _ _ _ _ _ := (hb1.block w.heap.size (by omega)).trans hR0
    have hbw1 : Below w.heap.size w w1 := hb0.trans (hb1.mono (by omega))
    have hl0 := hl1
    rcases hl1 with h | ⟨b, off, rfl, hbl, hc⟩
    · cases h
    have hlt := hl0.tail
    clear hl0
    have hc0 : w1.cell? ⟨b, off, none⟩ = some (.string x) := hc 0 (by simp)
    clear hc HC hb0 hR0 hs0
    go_wp2_with fail
    refine (HK.out _).mono ?_
    rintro e w2 ⟨rfl, hb2⟩
    have hR2 : OpC w2 w.heap.size _ _ _ _ _ _ := (hb2.block w.heap.size (by have := heap_ltP hR1; omega)).trans hR1
    have hbw2 : Below w.heap.size w w2 := hbw1.trans (hb2.mono hbw1.size)
    have hlt2 := hlt.below hb2
    have hs2 := hb2.size
    clear HK hlt hR1 hbw1 hb2 hb1 hc0
    have HM2 : Hid (res = none) := HM.out.trans (if_neg HI.out)
    rw [kdT_no HI.out]
    go_upto_region 5 with fail
    obtain ⟨off2, hoff, hl2⟩ : ∃ off2, (if cap = 1 then (some ⟨b, off, none⟩ : Option Addr) else some ⟨b, off + 1, none⟩) = some ⟨b, off2, none⟩ ∧ LieP w2 (some ⟨b, off2, none⟩) r := by
      by_cases h1 : cap = 1
      · exact ⟨off, if_pos h1, .inl (List.eq_nil_of_length_eq_zero (by omega))⟩
      · exact ⟨off + 1, if_neg h1, hlt2⟩
    have hb3 : Below w2.heap.size w2 (w2.alloc (.cells #[.int .i64 0, .string ⟨#[]⟩, .string ⟨#[]⟩, .int .i64 0, .slice none 0 0, .slice none 0 0] 38)) := (Below.refl _ _).alloc (Nat.le_refl _) _
    have hP : OpS w (w2.alloc (.cells #[.int .i64 0, .string ⟨#[]⟩, .string ⟨#[]⟩, .int .i64 0, .slice none 0 0, .slice none 0 0] 38)) w.heap.size w2.heap.size b off2 r (w2.heap.size + 1) 0 0 (.slice none 0 0) (.slice none 0 0) :=
      ⟨hbw2.trans (hb3.mono hbw2.size), (hb3.block _ (heap_ltP hR2)).trans hR2, World.heap_alloc_new _ _, hl2.below hb3, by rw [size_alloc]; omega, by omega, by omega, by omega⟩
    have hRS : w.heap.size ≠ w2.heap.size := by omega
    have hbS : b ≠ w2.heap.size := by omega
    have hwS : w.heap.size ≤ w2.heap.size := by omega
    clear hb3 hlt2 hl2 hbw2 hR2
    rw [hoff]
    have HP := hdN hP
    clear hP hoff hcap
    generalize w2.alloc (.cells #[.int .i64 0, .string ⟨#[]⟩, .string ⟨#[]⟩, .int .i64 0, .slice none 0 0, .slice none 0 0] 38) = W3 at *
    generalize w2.heap.size = S at *
    have hrl : r.length ≤ 1048576 := by have := HL.out; omega
    obtain ⟨x0, x1, x2, x3, x4, x5⟩ := six_cells HP.out.hR
    obtain ⟨z0, z1, z2, z3, z4, z5⟩ := six_free HP.out.hR
    obtain ⟨y0, y1, y2, y3, y4, y5⟩ := six_cells HP.out.hS
    obtain ⟨t0, t1, t2, t3, t4, t5⟩ := six_free HP.out.hS
    have hlR := heap_ltP HP.out.hR
    have hlS := heap_ltP HP.out.hS
    go_wp2_with fail
    obtain ⟨f1, f2, f3⟩ := HP.out.fin (.int .i64 0) (.string ⟨#[]⟩) (.string ⟨#[]⟩) (.int .i64 0) (.slice none 0 0) (.slice none 0 0)
    clear x0 x1 x2 x3 x4 x5 z0 z1 z2 z3 z4 z5 y0 y1 y2 y3 y4 y5 t0 t1 t2 t3 t4 t5
    generalize ((((((W3.setCell ⟨w.heap.size, 0, none⟩ (.int .i64 0)).setCell ⟨w.heap.size, 1, none⟩ (.string ⟨#[]⟩)).setCell ⟨w.heap.size, 2, none⟩ (.string ⟨#[]⟩)).setCell ⟨w.heap.size, 3, none⟩ (.int .i64 0)).setCell ⟨w.heap.size, 4, none⟩ (.slice none 0 0)).setCell ⟨w.heap.size, 5, none⟩ (.slice none 0 0)) = WF at *
    obtain ⟨x0, x1, x2, x3, x4, x5⟩ := six_cells f2
    refine bodyPost_ret (v := .tuple #[.agg #[.int .i64 0, .string ⟨#[]⟩, .string ⟨#[]⟩, .int .i64 0, .slice none 0 0, .slice none 0 0], .bool false]) (by simp [results, Tryz.results12, go_sem, x0, x1, x2, x3, x4, x5]) rfl ⟨⟨0, ⟨#[]⟩, ⟨#[]⟩, 0, [], []⟩, (.slice none 0 0), (.slice none 0 0), ?_, ?_, f1, ⟨_, _, _, rfl⟩, ⟨_, _, _, rfl⟩⟩
    · rw [HM2.out]; rfl
    · intro v hv
      rw [HM2.out] at hv; cases hv
set_option maxRecDepth 100000 in
set_option maxHeartbeats 16000000 in
theorem l7Op_g (s : ByteArray) (w : World) (hs : s.size ≤ 1048576) (hi : kI (hd0 (cutB 32 s)) < 17 ∧ kS.getD (kI (hd0 (cutB 32 s))) 0 ≤ 4) :
    Calls Tryz.prog 12 #[.string s] w fun e w' => ∃ (o : OpV) (ba bk : Value), e = .returned (.tuple #[opA o ba bk, .bool (opM s).isSome]) ∧ (∀ v, opM s = some v → o = v ∧ RowsO w' w.heap.size ba bk o) ∧ Below w.heap.size w w' ∧ (∃ a n c, ba = .slice a n c) ∧ (∃ a n c, bk = .slice a n c) := by
  have hb0 : Below w.heap.size w (w.alloc (.cells #[.int .i64 0, .string ⟨#[]⟩, .string ⟨#[]⟩, .int .i64 0, .slice none 0 0, .slice none 0 0] 38)) := (Below.refl _ _).alloc (Nat.le_refl _) _
  have hR0 : OpC (w.alloc (.cells #[.int .i64 0, .string ⟨#[]⟩, .string ⟨#[]⟩, .int .i64 0, .slice none 0 0, .slice none 0 0] 38)) w.heap.size 0 ⟨#[]⟩ ⟨#[]⟩ 0 (.slice none 0 0) (.slice none 0 0) := World.heap_alloc_new _ _
  have HC := hdN (fun (w' : World) => l7Cut_any s 32 w' hs)
  have HZ := hdN (cut_sizes 32 s hs)
  have HL : Hid ((cutB 32 s).length ≤ 1048577) := by have := cutB_len 32 s; show _ ≤ _; omega
  have hne : cutB 32 s ≠ [] := by unfold cutB; simp [cutL_ne]
  have HM : Hid (opM s = if kI (hd0 (cutB 32 s)) < 17 then opR (kS.getD (kI (hd0 (cutB 32 s))) 0) ((kI (hd0 (cutB 32 s)) : Int) + 1) (cutB 32 s).tail else none) := rfl
  generalize cutB 32 s = ps at *
  generalize opM s = res at *
  cases ps with
  | nil => exact absurd rfl hne
  | cons x r =>
    clear hne
    have HK := hdN (fun (w' : World) => l7Kind_any x w' (HZ.out x (by simp)))
    simp only [hd0, List.headD_cons, List.tail_cons, List.length_cons] at *
    have hs0 := size_alloc w (.cells #[.int .i64 0, .string ⟨#[]⟩, .string ⟨#[]⟩, .int .i64 0, .slice none 0 0, .slice none 0 0] 38)
    have HI := hdN hi
    clear hi
    go_enter Tryz.func12, Tryz.ntmps12
    go_wp2_with fail
    refine (HC.out _).mono ?_
    rintro e w1 ⟨a, cap, rfl, hcap, hl1, hb1⟩
    have hs1 : w.heap.size + 1 ≤ w1.heap.size := by have := hb1.size; omega
    rw [hs0] at hb1
    have hR1 : OpC w1 w.heap.size _ _ _ _ _ _ := (hb1.block w.heap.size (by omega)).trans hR0
    have hbw1 : Below w.heap.size w w1 := hb0.trans (hb1.mono (by omega))
    have hl0 := hl1
    rcases hl1 with h | ⟨b, off, rfl, hbl, hc⟩
    · cases h
    have hlt := hl0.tail
    clear hl0
    have hc0 : w1.cell? ⟨b, off, none⟩ = some (.string x) := hc 0 (by simp)
    clear hc HC hb0 hR0 hs0
    go_wp2_with fail
    refine (HK.out _).mono ?_
    rintro e w2 ⟨rfl, hb2⟩
    have hR2 : OpC w2 w.heap.size _ _ _ _ _ _ := (hb2.block w.heap.size (by have := heap_ltP hR1; omega)).trans hR1
    have hbw2 : Below w.heap.size w w2 := hbw1.trans (hb2.mono hbw1.size)
    have hlt2 := hlt.below hb2
    have hs2 := hb2.size
    clear HK hlt hR1 hbw1 hb2 hb1 hc0
    have HM1 : Hid (res = opR (kS.getD (kI x) 0) ((kI x : Int) + 1) r) := HM.out.trans (if_pos HI.out.1)
    rw [kdT_lt HI.out.1]
    have hi2 := HI.out.2
    generalize kS.getD (kI x) 0 = c at *
    have hK0 : ¬ ((kI x : Int) + 1 = 0) := by omega
    generalize (kI x : Int) + 1 = K at *
    have hKb : (K == 0) = false := by simpa using hK0
    clear HM HI
    obtain ⟨j0, ji, jz0, jz1, jz2⟩ := info_parts str_infoP
    have HM3 : Hid (res = opG K (shB c) r) := HM1.out.trans (opR_G c hi2 K r)
    have hsh : ((shB c).toList == [42]) = false ∧ ((shB c).toList == [43]) = false ∧ (shB c).size ≤ 3 := by
      match c, hi2 with
      | 0, _ => exact ⟨neL (by decide), neL (by decide), by decide⟩
      | 1, _ => exact ⟨neL (by decide), neL (by decide), by decide⟩
      | 2, _ => exact ⟨neL (by decide), neL (by decide), by decide⟩
      | 3, _ => exact ⟨neL (by decide), neL (by decide), by decide⟩
      | 4, _ => exact ⟨neL (by decide), neL (by decide), by decide⟩
    obtain ⟨hn1, hn2, hs3⟩ := hsh
    generalize shB c = SH at *
    clear HM1 hi2
    go_upto_region 5 with fail
    obtain ⟨off2, hoff, hl2⟩ : ∃ off2, (if cap = 1 then (some ⟨b, off, none⟩ : Option Addr) else some ⟨b, off + 1, none⟩) = some ⟨b, off2, none⟩ ∧ LieP w2 (some ⟨b, off2, none⟩) r := by
      by_cases h1 : cap = 1
      · exact ⟨off, if_pos h1, .inl (List.eq_nil_of_length_eq_zero (by omega))⟩
      · exact ⟨off + 1, if_neg h1, hlt2⟩
    have hb3 : Below w2.heap.size w2 (w2.alloc (.cells #[.int .i64 K, .string ⟨#[]⟩, .string ⟨#[]⟩, .int .i64 0, .slice none 0 0, .slice none 0 0] 38)) := (Below.refl _ _).alloc (Nat.le_refl _) _
    have hP : OpS w (w2.alloc (.cells #[.int .i64 K, .string ⟨#[]⟩, .string ⟨#[]⟩, .int .i64 0, .slice none 0 0, .slice none 0 0] 38)) w.heap.size w2.heap.size b off2 r (w2.heap.size + 1) K 0 (.slice none 0 0) (.slice none 0 0) :=
      ⟨hbw2.trans (hb3.mono hbw2.size), (hb3.block _ (heap_ltP hR2)).trans hR2, World.heap_alloc_new _ _, hl2.below hb3, by rw [size_alloc]; omega, by omega, by omega, by omega⟩
    have hRS : w.heap.size ≠ w2.heap.size := by omega
    have hbS : b ≠ w2.heap.size := by omega
    have hwS : w.heap.size ≤ w2.heap.size := by omega
    clear hb3 hlt2 hl2 hbw2 hR2
    rw [hoff]
    have HP := hdN hP
    clear hP hoff hcap
    generalize w2.alloc (.cells #[.int .i64 K, .string ⟨#[]⟩, .string ⟨#[]⟩, .int .i64 0, .slice none 0 0, .slice none 0 0] 38) = W3 at *
    generalize w2.heap.size = S at *
    have hrl : r.length ≤ 1048576 := by have := HL.out; omega
    obtain ⟨x0, x1, x2, x3, x4, x5⟩ := six_cells HP.out.hR
    obtain ⟨z0, z1, z2, z3, z4, z5⟩ := six_free HP.out.hR
    obtain ⟨y0, y1, y2, y3, y4, y5⟩ := six_cells HP.out.hS
    obtain ⟨t0, t1, t2, t3, t4, t5⟩ := six_free HP.out.hS
    have hlR := heap_ltP HP.out.hR
    have hlS := heap_ltP HP.out.hS
    by_cases hlen : r.length = SH.size
    · have hlen' : (r.length : Int) = (SH.size : Int) := by omega
      have HM2 : Hid (res = (foldG (SH.data.toList.zip r) ([], 0)).map fun st => ⟨K, st.1.getD 0 ⟨#[]⟩, st.1.getD 1 ⟨#[]⟩, st.2, [], []⟩) := HM3.out.trans (if_pos hlen)
      have hsl : SH.data.toList.length = SH.size := by rw [Array.length_toList]; rfl
      go_upto_region 23 with fail
      clear x0 x1 x2 x3 x4 x5 z0 z1 z2 z3 z4 z5 y0 y1 y2 y3 y4 y5 t0 t1 t2 t3 t4 t5
      have hB3 : S + 1 ≤ W3.heap.size := by omega
      obtain ⟨W4, hW4⟩ : ∃ W4, W4 = W3.alloc (.cells #[] 9) := ⟨_, rfl⟩
      have hb4 : Below W3.heap.size W3 W4 := by rw [hW4]; exact (Below.refl _ _).alloc (Nat.le_refl _) _
      have HP4 := hdN (HP.out.below hb4)
      have HO4 : Hid (W4.ownsRow (S + 1) 9 1 (.slice (some ⟨W3.heap.size, 0, none⟩) 0 0) 0 (cellsP [])) := by show World.ownsRow _ _ _ _ _ _ _; rw [hW4]; exact ownsP_lit W3 (S + 1) hB3
      have HLN := hdN hlen
      clear hlen hlen' HP hb4 HM3
      go_wp2_with fail
      rw [← hW4]
      clear hW4
      have hwB : w.heap.size ≤ S + 1 := by omega
      go_loopw [14, 15] (fun v14 v15 W => ∃ (k : Nat) (ws : List ByteArray) (n : Int), v15 = .int .i64 (k : Int) ∧ k ≤ r.length ∧ ws.length ≤ k ∧ Hid (foldG ((SH.data.toList.zip r).take k) ([], 0) = some (ws, n)) ∧ Hid (OpS w W w.heap.size S b off2 r (S + 1) K n (.slice none 0 0) (.slice none 0 0)) ∧ Hid (W.ownsRow (S + 1) 9 1 v14 ws.length (cellsP ws))) (fun _ v15 _ => r.length - (intOf v15).toNat)
      case atStart => exact ⟨0, [], 0, rfl, Nat.zero_le _, Nat.le_refl _, rfl, HP4, HO4⟩
      case round =>
        clear HP4 HO4
        obtain ⟨k, ws, n, rfl, hk, hwk, HF, HP, HO⟩ := hrel
        obtain ⟨a14, c14, hc14, hcc14, hl14⟩ := lieP_of_owns HO.out
        subst hc14
        have HL14 := hdN hl14
        clear hl14
        by_cases hlt : k < r.length
        · have hlt' : (k : Int) < (r.length : Int) := by omega
          have hks : k < SH.size := by have := HLN.out; omega
          have hks' : (k : Int) < (SH.size : Int) := by omega
          have hbd := bget_data SH k hks
          have hc : wr.cell? ⟨b, off2 + k, none⟩ = some (.string (r.getD k ByteArray.empty)) := by
            rcases HP.out.hl with h | ⟨b', off', e, hlt2, hcc⟩
            · rw [h] at hlt; simp at hlt
            · cases e
              exact hcc k hlt
          have hbw : b < wr.heap.size := Nat.lt_of_lt_of_le HP.out.hbB HP.out.hB
          have HS1 := hdN (foldG_step HF.out (by omega) hlt)
          have HXZ : Hid ((r.getD k ByteArray.empty).size ≤ 1048576) := HZ.out _ (by
            rw [List.getD_eq_getElem?_getD, List.getElem?_eq_getElem hlt]
            simp)
          generalize r.getD k ByteArray.empty = y at *
          generalize SH.data.toList.getD k 0 = ch at *
          have hch := ch.toNat_lt
          by_cases h110 : ch = 110
          · have h110' : (ch.toNat : Int) = 110 := by rw [h110]; rfl
            have HN := hdN (l7Num_any y wr HXZ.out)
            have HS2 : Hid (stepG ch y (ws, n) = (nuM y).map fun m => (ws, m)) := if_pos h110
            clear h110
            go_wp2_with fail
            refine HN.out.mono ?_
            rintro e w5 ⟨m, rfl, hm, hb5⟩
            have HP5 := hdN (HP.out.below hb5)
            have HO5 := hdN (owns_below HO.out hb5)
            have HMM := hdN hm
            clear hm HN hb5 hc
            obtain ⟨x0, x1, x2, x3, x4, x5⟩ := six_cells HP5.out.hR
            obtain ⟨z0, z1, z2, z3, z4, z5⟩ := six_free HP5.out.hR
            obtain ⟨y0, y1, y2, y3, y4, y5⟩ := six_cells HP5.out.hS
            obtain ⟨t0, t1, t2, t3, t4, t5⟩ := six_free HP5.out.hS
            have hlR5 := heap_ltP HP5.out.hR
            have hlS5 := heap_ltP HP5.out.hS
            cases hny : nuM y with
            | none =>
              have HM4 : Hid (res = none) := by
                show _ = _
                rw [HM2.out, foldG_bad (k := k + 1) (by rw [HS1.out, HS2.out, hny]; rfl)]; rfl
              go_wp2_with fail
              obtain ⟨f1, f2, f3⟩ := HP5.out.fin (.int .i64 K) (.string ⟨#[]⟩) (.string ⟨#[]⟩) (.int .i64 n) (.slice none 0 0) (.slice none 0 0)
              clear x0 x1 x2 x3 x4 x5 z0 z1 z2 z3 z4 z5 y0 y1 y2 y3 y4 y5 t0 t1 t2 t3 t4 t5
              generalize ((((((w5.setCell ⟨w.heap.size, 0, none⟩ (.int .i64 K)).setCell ⟨w.heap.size, 1, none⟩ (.string ⟨#[]⟩)).setCell ⟨w.heap.size, 2, none⟩ (.string ⟨#[]⟩)).setCell ⟨w.heap.size, 3, none⟩ (.int .i64 n)).setCell ⟨w.heap.size, 4, none⟩ (.slice none 0 0)).setCell ⟨w.heap.size, 5, none⟩ (.slice none 0 0)) = WF at *
              obtain ⟨x0, x1, x2, x3, x4, x5⟩ := six_cells f2
              refine bodyPost_ret (v := .tuple #[.agg #[.int .i64 K, .string ⟨#[]⟩, .string ⟨#[]⟩, .int .i64 n, .slice none 0 0, .slice none 0 0], .bool false]) (by simp [results, Tryz.results12, go_sem, x0, x1, x2, x3, x4, x5]) rfl ⟨⟨K, ⟨#[]⟩, ⟨#[]⟩, n, [], []⟩, (.slice none 0 0), (.slice none 0 0), ?_, ?_, f1, ⟨_, _, _, rfl⟩, ⟨_, _, _, rfl⟩⟩
              · rw [HM4.out]; rfl
              · intro v hv
                rw [HM4.out] at hv; cases hv
            | some u =>
              obtain rfl := HMM.out u hny
              have HP6 := hdN (HP5.out.set hRS hbS hwS (HP5.out.hS.num m))
              have HO6 := hdN (owns_set (p := S) (o := 3) (u := .int .i64 m) HO5.out (by omega))
              have HF6 : Hid (foldG ((SH.data.toList.zip r).take (k + 1)) ([], 0) = some (ws, m)) := by show _ = _; rw [HS1.out, HS2.out, hny]; rfl
              clear HP5 HO5
              go_wp2_with fail
              exact ⟨⟨k + 1, ws, m, by go_num, by omega, by omega, HF6, HP6, HO6⟩, by simp only [intOf]; omega⟩
          · have h110' : ¬ (ch.toNat : Int) = 110 := fun h => by
              have h2 : ch.toNat = 110 := by omega
              exact h110 (UInt8.toNat_inj.1 h2)
            have HN := hdN (l7Wor_any y wr HXZ.out)
            have HS2 : Hid (stepG ch y (ws, n) = (woO y).map fun a => (ws ++ [a], n)) := if_neg h110
            clear h110
            go_wp2_with fail
            refine HN.out.mono ?_
            rintro e w5 ⟨m, rfl, hm, hb5⟩
            have HP5 := hdN (HP.out.below hb5)
            have HO5 := hdN (owns_below HO.out hb5)
            have HMM := hdN hm
            clear hm HN hb5 hc
            obtain ⟨x0, x1, x2, x3, x4, x5⟩ := six_cells HP5.out.hR
            obtain ⟨z0, z1, z2, z3, z4, z5⟩ := six_free HP5.out.hR
            obtain ⟨y0, y1, y2, y3, y4, y5⟩ := six_cells HP5.out.hS
            obtain ⟨t0, t1, t2, t3, t4, t5⟩ := six_free HP5.out.hS
            have hlR5 := heap_ltP HP5.out.hR
            have hlS5 := heap_ltP HP5.out.hS
            cases hny : woO y with
            | none =>
              have HM4 : Hid (res = none) := by
                show _ = _
                rw [HM2.out, foldG_bad (k := k + 1) (by rw [HS1.out, HS2.out, hny]; rfl)]; rfl
              go_wp2_with fail
              obtain ⟨f1, f2, f3⟩ := HP5.out.fin (.int .i64 K) (.string ⟨#[]⟩) (.string ⟨#[]⟩) (.int .i64 n) (.slice none 0 0) (.slice none 0 0)
              clear x0 x1 x2 x3 x4 x5 z0 z1 z2 z3 z4 z5 y0 y1 y2 y3 y4 y5 t0 t1 t2 t3 t4 t5
              generalize ((((((w5.setCell ⟨w.heap.size, 0, none⟩ (.int .i64 K)).setCell ⟨w.heap.size, 1, none⟩ (.string ⟨#[]⟩)).setCell ⟨w.heap.size, 2, none⟩ (.string ⟨#[]⟩)).setCell ⟨w.heap.size, 3, none⟩ (.int .i64 n)).setCell ⟨w.heap.size, 4, none⟩ (.slice none 0 0)).setCell ⟨w.heap.size, 5, none⟩ (.slice none 0 0)) = WF at *
              obtain ⟨x0, x1, x2, x3, x4, x5⟩ := six_cells f2
              refine bodyPost_ret (v := .tuple #[.agg #[.int .i64 K, .string ⟨#[]⟩, .string ⟨#[]⟩, .int .i64 n, .slice none 0 0, .slice none 0 0], .bool false]) (by simp [results, Tryz.results12, go_sem, x0, x1, x2, x3, x4, x5]) rfl ⟨⟨K, ⟨#[]⟩, ⟨#[]⟩, n, [], []⟩, (.slice none 0 0), (.slice none 0 0), ?_, ?_, f1, ⟨_, _, _, rfl⟩, ⟨_, _, _, rfl⟩⟩
              · rw [HM4.out]; rfl
              · intro v hv
                rw [HM4.out] at hv; cases hv
            | some u =>
              obtain rfl := HMM.out u hny
              have HF6 : Hid (foldG ((SH.data.toList.zip r).take (k + 1)) ([], 0) = some (ws ++ [m], n)) := by show _ = _; rw [HS1.out, HS2.out, hny]; rfl
              have hB5 := HP5.out.hB
              have hr3 : ws.length ≤ 3 := by have := HLN.out; omega
              clear x0 x1 x2 x3 x4 x5 z0 z1 z2 z3 z4 z5 y0 y1 y2 y3 y4 y5 t0 t1 t2 t3 t4 t5
              go_wp2_with (at_builtin; refine wpList_append_own _ rfl _ _ 30 rfl (S + 1) 9 j0 _ 1 16 Tryz.underlying30 ji jz0 jz1 jz2 rfl (by decide) _ _ _ rfl (HO5.out.alloc _) ⟨w5.heap.size, 0, none⟩ 1 1 [.string m] rfl rfl (cell_firstP w5 _ _) (fun x hx => by simp at hx; subst hx; rfl) (by unfold maxLen; omega) (by omega) (by simp; omega) ?_; intro v8 w8 hown8 hgrow8 hnil8; have HP8 := hdN (HP5.out.grown HO5.out hgrow8 hwB); obtain ⟨g8, cap8, rfl⟩ := owns_succD hown8; have HW8 := hdN hown8; clear hown8 hgrow8 hnil8)
              refine ⟨⟨k + 1, ws ++ [m], n, by go_num, by omega, by simp; omega, HF6, HP8, ?_⟩, by simp only [intOf]; omega⟩
              show World.ownsRow _ _ _ _ _ _ _
              rw [List.length_append, cellsP_snoc]
              exact HW8.out
        · have hlt' : ¬ (k : Int) < (r.length : Int) := by omega
          have hkr : k = r.length := by omega
          have HM4 : Hid (res = some ⟨K, ws.getD 0 ⟨#[]⟩, ws.getD 1 ⟨#[]⟩, n, [], []⟩) := by
            have h1 := HF.out
            rw [List.take_of_length_le (by simp; omega)] at h1
            show _ = _
            rw [HM2.out, h1]; rfl
          obtain ⟨x0, x1, x2, x3, x4, x5⟩ := six_cells HP.out.hR
          obtain ⟨z0, z1, z2, z3, z4, z5⟩ := six_free HP.out.hR
          obtain ⟨y0, y1, y2, y3, y4, y5⟩ := six_cells HP.out.hS
          obtain ⟨t0, t1, t2, t3, t4, t5⟩ := six_free HP.out.hS
          have hlR5 := heap_ltP HP.out.hR
          have hlS5 := heap_ltP HP.out.hS
          have HWK := hdN hwk
          clear hkr hwk
          match ws, HL14, HM4, HO, hcc14, HWK, HF with
          | [], HL14, HM4, HO, hcc14, HWK, HF =>
            simp only [List.length_nil] at *
            go_wp2_with fail
            obtain ⟨f1, f2, f3⟩ := HP.out.fin (.int .i64 K) (.string ⟨#[]⟩) (.string ⟨#[]⟩) (.int .i64 n) (.slice none 0 0) (.slice none 0 0)
            clear x0 x1 x2 x3 x4 x5 z0 z1 z2 z3 z4 z5 y0 y1 y2 y3 y4 y5 t0 t1 t2 t3 t4 t5
            generalize ((((((wr.setCell ⟨w.heap.size, 0, none⟩ (.int .i64 K)).setCell ⟨w.heap.size, 1, none⟩ (.string ⟨#[]⟩)).setCell ⟨w.heap.size, 2, none⟩ (.string ⟨#[]⟩)).setCell ⟨w.heap.size, 3, none⟩ (.int .i64 n)).setCell ⟨w.heap.size, 4, none⟩ (.slice none 0 0)).setCell ⟨w.heap.size, 5, none⟩ (.slice none 0 0)) = WF at *
            obtain ⟨x0, x1, x2, x3, x4, x5⟩ := six_cells f2
            refine bodyPost_ret (v := .tuple #[.agg #[.int .i64 K, .string ⟨#[]⟩, .string ⟨#[]⟩, .int .i64 n, .slice none 0 0, .slice none 0 0], .bool true]) (by simp [results, Tryz.results12, go_sem, x0, x1, x2, x3, x4, x5]) rfl ⟨⟨K, ⟨#[]⟩, ⟨#[]⟩, n, [], []⟩, (.slice none 0 0), (.slice none 0 0), ?_, ?_, f1, ⟨_, _, _, rfl⟩, ⟨_, _, _, rfl⟩⟩
            · rw [HM4.out]; rfl
            · intro v hv
              rw [HM4.out] at hv; cases hv
              exact ⟨rfl, f3 _ _ _ (rowsNil _ _ _ _ _ _)⟩
          | [a], HL14, HM4, HO, hcc14, HWK, HF =>
            obtain ⟨h1, h2⟩ := HP.out.fin1 (o := 1) (u := .string a) hRS hwS
            rcases HL14.out with h | ⟨g, og, rfl, hgl, hgc⟩
            · cases h
            have q0 : wr.cell? ⟨g, og, none⟩ = some (.string a) := hgc 0 (by simp)
            clear hgc
            simp only [List.length_cons, List.length_nil] at *
            go_wp2_with fail
            obtain ⟨f1, f2, f3⟩ := (opFin h1 h2 HP.out.hRB) (.int .i64 K) (.string a) (.string ⟨#[]⟩) (.int .i64 n) (.slice none 0 0) (.slice none 0 0)
            clear x0 x1 x2 x3 x4 x5 z0 z1 z2 z3 z4 z5 y0 y1 y2 y3 y4 y5 t0 t1 t2 t3 t4 t5
            generalize (((((((wr.setCell ⟨S, 1, none⟩ (.string a)).setCell ⟨w.heap.size, 0, none⟩ (.int .i64 K)).setCell ⟨w.heap.size, 1, none⟩ (.string a)).setCell ⟨w.heap.size, 2, none⟩ (.string ⟨#[]⟩)).setCell ⟨w.heap.size, 3, none⟩ (.int .i64 n)).setCell ⟨w.heap.size, 4, none⟩ (.slice none 0 0)).setCell ⟨w.heap.size, 5, none⟩ (.slice none 0 0)) = WF at *
            obtain ⟨x0, x1, x2, x3, x4, x5⟩ := six_cells f2
            refine bodyPost_ret (v := .tuple #[.agg #[.int .i64 K, .string a, .string ⟨#[]⟩, .int .i64 n, .slice none 0 0, .slice none 0 0], .bool true]) (by simp [results, Tryz.results12, go_sem, x0, x1, x2, x3, x4, x5]) rfl ⟨⟨K, a, ⟨#[]⟩, n, [], []⟩, (.slice none 0 0), (.slice none 0 0), ?_, ?_, f1, ⟨_, _, _, rfl⟩, ⟨_, _, _, rfl⟩⟩
            · rw [HM4.out]; rfl
            · intro v hv
              rw [HM4.out] at hv; cases hv
              exact ⟨rfl, f3 _ _ _ (rowsNil _ _ _ _ _ _)⟩
          | a :: a2 :: ws', HL14, HM4, HO, hcc14, HWK, HF =>
            obtain ⟨h1', h2'⟩ := HP.out.fin1 (o := 1) (u := .string a) hRS hwS
            have h1 := belowSet (o := 2) (v := .string a2) h1' hwS
            have h2 : OpC ((wr.setCell ⟨S, 1, none⟩ (.string a)).setCell ⟨S, 2, none⟩ (.string a2)) w.heap.size 0 ⟨#[]⟩ ⟨#[]⟩ 0 (.slice none 0 0) (.slice none 0 0) := (Below.heap_setCell _ _ _ _ (by simpa using hRS)).trans h2'
            clear h1' h2'
            rcases HL14.out with h | ⟨g, og, rfl, hgl, hgc⟩
            · cases h
            have q0 : wr.cell? ⟨g, og, none⟩ = some (.string a) := hgc 0 (by simp)
            have q1 : wr.cell? ⟨g, og + 1, none⟩ = some (.string a2) := hgc 1 (by simp)
            have hgS : ¬ g = S := fun e => by
              have := owns_base HO.out g rfl
              omega
            have hgS2 : ¬ S = g := fun e => hgS e.symm
            clear hgc
            simp only [List.length_cons] at *
            go_wp2_with fail
            obtain ⟨f1, f2, f3⟩ := (opFin h1 h2 HP.out.hRB) (.int .i64 K) (.string a) (.string a2) (.int .i64 n) (.slice none 0 0) (.slice none 0 0)
            clear x0 x1 x2 x3 x4 x5 z0 z1 z2 z3 z4 z5 y0 y1 y2 y3 y4 y5 t0 t1 t2 t3 t4 t5
            generalize ((((((((wr.setCell ⟨S, 1, none⟩ (.string a)).setCell ⟨S, 2, none⟩ (.string a2)).setCell ⟨w.heap.size, 0, none⟩ (.int .i64 K)).setCell ⟨w.heap.size, 1, none⟩ (.string a)).setCell ⟨w.heap.size, 2, none⟩ (.string a2)).setCell ⟨w.heap.size, 3, none⟩ (.int .i64 n)).setCell ⟨w.heap.size, 4, none⟩ (.slice none 0 0)).setCell ⟨w.heap.size, 5, none⟩ (.slice none 0 0)) = WF at *
            obtain ⟨x0, x1, x2, x3, x4, x5⟩ := six_cells f2
            refine bodyPost_ret (v := .tuple #[.agg #[.int .i64 K, .string a, .string a2, .int .i64 n, .slice none 0 0, .slice none 0 0], .bool true]) (by simp [results, Tryz.results12, go_sem, x0, x1, x2, x3, x4, x5]) rfl ⟨⟨K, a, a2, n, [], []⟩, (.slice none 0 0), (.slice none 0 0), ?_, ?_, f1, ⟨_, _, _, rfl⟩, ⟨_, _, _, rfl⟩⟩
            · rw [HM4.out]; rfl
            · intro v hv
              rw [HM4.out] at hv; cases hv
              exact ⟨rfl, f3 _ _ _ (rowsNil _ _ _ _ _ _)⟩
    · have hlen' : ¬ (r.length : Int) = (SH.size : Int) := by omega
      have HM2 : Hid (res = none) := HM3.out.trans (if_neg hlen)
      go_wp2_with fail
      obtain ⟨f1, f2, f3⟩ := HP.out.fin (.int .i64 K) (.string ⟨#[]⟩) (.string ⟨#[]⟩) (.int .i64 0) (.slice none 0 0) (.slice none 0 0)
      clear x0 x1 x2 x3 x4 x5 z0 z1 z2 z3 z4 z5 y0 y1 y2 y3 y4 y5 t0 t1 t2 t3 t4 t5
      generalize ((((((W3.setCell ⟨w.heap.size, 0, none⟩ (.int .i64 K)).setCell ⟨w.heap.size, 1, none⟩ (.string ⟨#[]⟩)).setCell ⟨w.heap.size, 2, none⟩ (.string ⟨#[]⟩)).setCell ⟨w.heap.size, 3, none⟩ (.int .i64 0)).setCell ⟨w.heap.size, 4, none⟩ (.slice none 0 0)).setCell ⟨w.heap.size, 5, none⟩ (.slice none 0 0)) = WF at *
      obtain ⟨x0, x1, x2, x3, x4, x5⟩ := six_cells f2
      refine bodyPost_ret (v := .tuple #[.agg #[.int .i64 K, .string ⟨#[]⟩, .string ⟨#[]⟩, .int .i64 0, .slice none 0 0, .slice none 0 0], .bool false]) (by simp [results, Tryz.results12, go_sem, x0, x1, x2, x3, x4, x5]) rfl ⟨⟨K, ⟨#[]⟩, ⟨#[]⟩, 0, [], []⟩, (.slice none 0 0), (.slice none 0 0), ?_, ?_, f1, ⟨_, _, _, rfl⟩, ⟨_, _, _, rfl⟩⟩
      · rw [HM2.out]; rfl
      · intro v hv
        rw [HM2.out] at hv; cases hv
end Go.Proofs.YtohpfjpgihcmiaaGreatDoor
