import Derived.Test.YtohpfjpgihcmiaaGreatDoorPsF

namespace Go.Proofs.YtohpfjpgihcmiaaGreatDoor
open Go.RowKit Go.Maps
set_option linter.unusedVariables false
set_option linter.unusedSimpArgs false

/-- An operation in its block. -/
def OpC (w : World) (b : Nat) (k : Int) (ky vl : ByteArray) (n : Int) (vb vk : Value) : Prop := w.heap[b]? = some (.cells #[.int .i64 k, .string ky, .string vl, .int .i64 n, vb, vk] 38 (0, 0))
theorem six_cells {w : World} {b : Nat} {t : TypeId} {x0 x1 x2 x3 x4 x5 : Value} (h : w.heap[b]? = some (.cells #[x0, x1, x2, x3, x4, x5] t (0, 0))) :
    (w.cell? ⟨b, 0, none⟩ = some x0 ∧ w.cell? ⟨b, 1, none⟩ = some x1 ∧ w.cell? ⟨b, 2, none⟩ = some x2 ∧ w.cell? ⟨b, 3, none⟩ = some x3 ∧ w.cell? ⟨b, 4, none⟩ = some x4 ∧ w.cell? ⟨b, 5, none⟩ = some x5) := by
  refine ⟨?_, ?_, ?_, ?_, ?_, ?_⟩ <;> simp [World.cell?, h]
theorem six_free {w : World} {b : Nat} {t : TypeId} {x0 x1 x2 x3 x4 x5 : Value} (h : w.heap[b]? = some (.cells #[x0, x1, x2, x3, x4, x5] t (0, 0))) :
    (w.frozen? ⟨b, 0, none⟩ = false ∧ w.frozen? ⟨b, 1, none⟩ = false ∧ w.frozen? ⟨b, 2, none⟩ = false ∧ w.frozen? ⟨b, 3, none⟩ = false ∧ w.frozen? ⟨b, 4, none⟩ = false ∧ w.frozen? ⟨b, 5, none⟩ = false) := by
  refine ⟨?_, ?_, ?_, ?_, ?_, ?_⟩ <;> simp [World.frozen?, h]
theorem OpC.only {w w' : World} {b p : Nat} {k : Int} {ky vl : ByteArray} {n : Int} {vb vk : Value} (h : OpC w b k ky vl n vb vk) (ho : Only p w w') (hn : b ≠ p) : OpC w' b k ky vl n vb vk := (ho.block b (heap_ltP h) hn).trans h
theorem OpC.key {w : World} {b : Nat} {k : Int} {ky vl : ByteArray} {n : Int} {vb vk : Value} (h : OpC w b k ky vl n vb vk) (x : ByteArray) : OpC (w.setCell ⟨b, 1, none⟩ (.string x)) b k x vl n vb vk := by
  unfold OpC at *; rw [heap_setCell_same _ _ _ _ _ _ h]; rfl
theorem OpC.val {w : World} {b : Nat} {k : Int} {ky vl : ByteArray} {n : Int} {vb vk : Value} (h : OpC w b k ky vl n vb vk) (x : ByteArray) : OpC (w.setCell ⟨b, 2, none⟩ (.string x)) b k ky x n vb vk := by
  unfold OpC at *; rw [heap_setCell_same _ _ _ _ _ _ h]; rfl
theorem OpC.num {w : World} {b : Nat} {k : Int} {ky vl : ByteArray} {n : Int} {vb vk : Value} (h : OpC w b k ky vl n vb vk) (x : Int) : OpC (w.setCell ⟨b, 3, none⟩ (.int .i64 x)) b k ky vl x vb vk := by
  unfold OpC at *; rw [heap_setCell_same _ _ _ _ _ _ h]; rfl
theorem OpC.bat {w : World} {b : Nat} {k : Int} {ky vl : ByteArray} {n : Int} {vb vk : Value} (h : OpC w b k ky vl n vb vk) (x : Value) : OpC (w.setCell ⟨b, 4, none⟩ x) b k ky vl n x vk := by
  unfold OpC at *; rw [heap_setCell_same _ _ _ _ _ _ h]; rfl
theorem OpC.kep {w : World} {b : Nat} {k : Int} {ky vl : ByteArray} {n : Int} {vb vk : Value} (h : OpC w b k ky vl n vb vk) (x : Value) : OpC (w.setCell ⟨b, 5, none⟩ x) b k ky vl n vb x := by
  unfold OpC at *; rw [heap_setCell_same _ _ _ _ _ _ h]; rfl
/-- What a part is as a word, told without a fault. -/
def woV (x : ByteArray) : ByteArray := if x = ⟨#[95]⟩ then ByteArray.empty else x
theorem woO_V {x t : ByteArray} (h : woO x = some t) : woV x = t := by
  unfold woO at h
  split at h
  · cases h; rfl
  · cases h
def nuV (x : ByteArray) : Int := (rd x.data.toList).getD 0
theorem numM_V {x : ByteArray} {v : Int} (h : numM x.data.toList = some v) : nuV x = v := by
  unfold numM at h
  unfold nuV
  cases hr : rd x.data.toList with
  | none => rw [hr] at h; cases h
  | some u =>
    rw [hr] at h
    dsimp only at h
    split at h
    · cases h; rfl
    · cases h
def hd0 (r : List ByteArray) : ByteArray := r.headD ByteArray.empty
theorem sub_tail {r : List ByteArray} (h : ∀ x ∈ r, x.size ≤ 1048576) : ∀ x ∈ r.tail, x.size ≤ 1048576 := fun x hx => h x (List.mem_of_mem_tail hx)
theorem len_tail {r : List ByteArray} (h : r.length ≤ 1048577) : r.tail.length ≤ 1048577 := by rw [List.length_tail]; omega

set_option maxRecDepth 100000 in
set_option maxHeartbeats 1000000 in
theorem readNothing_any (p b : Nat) (w : World) : Calls Tryz.prog 30 #[.pointer (some ⟨p, 0, none⟩), .pointer (some ⟨b, 0, none⟩)] w fun e w' => (∃ v, e = .returned v) ∧ w' = w := by
  go_enter Tryz.func30, Tryz.ntmps30
  go_wp2_with fail
  go_end0
  exact ⟨⟨_, rfl⟩, rfl⟩
set_option maxRecDepth 100000 in
set_option maxHeartbeats 1000000 in
theorem readKey_any (p b : Nat) (r : List ByteArray) (fl : Bool) (k : Int) (ky vl : ByteArray) (n : Int) (vb vk : Value) (w : World) (h : Pt w p r fl) (hl : r.length ≤ 1048577) (hO : OpC w b k ky vl n vb vk) (hpb : p < b) :
    Calls Tryz.prog 32 #[.pointer (some ⟨p, 0, none⟩), .pointer (some ⟨b, 0, none⟩)] w fun e w' => (∃ v, e = .returned v) ∧ Pt w' p r.tail (fl || (woO (hd0 r)).isNone) ∧ OpC w' b k (woV (hd0 r)) vl n vb vk ∧ Below p w w' := by
  have hbl := heap_ltP hO
  have HW := hdN (word_any p r fl w h hl)
  change Hid (Calls _ _ _ _ fun e w' => e = .returned (.string (woV (hd0 r))) ∧ Pt w' p r.tail (fl || (woO (hd0 r)).isNone) ∧ Only p w w') at HW
  generalize woV (hd0 r) = V at *
  generalize (woO (hd0 r)).isNone = F at *
  go_enter Tryz.func32, Tryz.ntmps32
  go_wp2_with fail
  refine HW.out.mono ?_
  rintro e w1 ⟨rfl, hp1, ho1⟩
  have hO1 := hO.only ho1 (by omega)
  obtain ⟨x0, x1, x2, x3, x4, x5⟩ := six_cells hO1
  obtain ⟨z0, z1, z2, z3, z4, z5⟩ := six_free hO1
  have hl1 := heap_ltP hO1
  clear hO
  have hr1 := hp1.set (q := b) (o := 1) (v := .string V) hpb
  have hr2 := hO1.key V
  have hr3 : Below p w (w1.setCell ⟨b, 1, none⟩ (.string V)) := (ho1.below (Nat.le_refl _) (by have := h.lt; omega)).setCell (p := ⟨b, 1, none⟩) (by simp; omega) _
  have HR1 := hdN hr1
  have HR2 := hdN hr2
  have HR3 := hdN hr3
  clear hp1 ho1 hO1 hr1 hr2 hr3
  go_wp2_with fail
  go_end0
  exact ⟨⟨_, rfl⟩, HR1.out, HR2.out, HR3.out⟩

theorem Pt.ltB {w w' : World} {p : Nat} {r : List ByteArray} {fl : Bool} (h : Pt w p r fl) : p ≤ w.heap.size := Nat.le_of_lt h.lt
theorem keptP {w w1 : World} {p b : Nat} {o : Nat} {v : Value} (ho : Only p w w1) (hl : p ≤ w.heap.size) (hb : p < b) : Below p w (w1.setCell ⟨b, o, none⟩ v) := (ho.below (Nat.le_refl _) hl).setCell (p := ⟨b, o, none⟩) (by simp; omega) _
set_option maxRecDepth 100000 in
set_option maxHeartbeats 1000000 in
theorem readKV_any (p b : Nat) (r : List ByteArray) (fl : Bool) (k : Int) (ky vl : ByteArray) (n : Int) (vb vk : Value) (w : World) (h : Pt w p r fl) (hl : r.length ≤ 1048577) (hO : OpC w b k ky vl n vb vk) (hpb : p < b) :
    Calls Tryz.prog 31 #[.pointer (some ⟨p, 0, none⟩), .pointer (some ⟨b, 0, none⟩)] w fun e w' => (∃ v, e = .returned v) ∧ Pt w' p r.tail.tail ((fl || (woO (hd0 r)).isNone) || (woO (hd0 r.tail)).isNone) ∧ OpC w' b k (woV (hd0 r)) (woV (hd0 r.tail)) n vb vk ∧ Below p w w' := by
  have hbl := heap_ltP hO
  have HW := hdN (word_any p r fl w h hl)
  change Hid (Calls _ _ _ _ fun e w' => e = .returned (.string (woV (hd0 r))) ∧ Pt w' p r.tail (fl || (woO (hd0 r)).isNone) ∧ Only p w w') at HW
  have HV := hdN (fun (w : World) (fl : Bool) (h : Pt w p r.tail fl) => word_any p r.tail fl w h (len_tail hl))
  change Hid (∀ (w : World) (fl : Bool) (h : Pt w p r.tail fl), Calls _ _ _ w fun e w' => e = .returned (.string (woV (hd0 r.tail))) ∧ Pt w' p r.tail.tail (fl || (woO (hd0 r.tail)).isNone) ∧ Only p w w') at HV
  generalize woV (hd0 r) = V at *
  generalize (woO (hd0 r)).isNone = F at *
  generalize woV (hd0 r.tail) = V2 at *
  generalize (woO (hd0 r.tail)).isNone = F2 at *
  have hpl := Nat.le_of_lt h.lt
  go_enter Tryz.func31, Tryz.ntmps31
  go_wp2_with fail
  refine HW.out.mono ?_
  rintro e w1 ⟨rfl, hp1, ho1⟩
  have hO1 := hO.only ho1 (by omega)
  obtain ⟨x0, x1, x2, x3, x4, x5⟩ := six_cells hO1
  obtain ⟨z0, z1, z2, z3, z4, z5⟩ := six_free hO1
  have hl1 := heap_ltP hO1
  have hr1 := hp1.set (q := b) (o := 1) (v := .string V) hpb
  have hr2 := hO1.key V
  have hr3 := keptP (o := 1) (v := .string V) ho1 hpl hpb
  clear hp1 ho1 hO1 hO
  go_wp2_with fail
  generalize w1.setCell ⟨b, 1, none⟩ (.string V) = w2 at *
  clear x0 x1 x2 x3 x4 x5 z0 z1 z2 z3 z4 z5
  refine (HV.out _ _ hr1).mono ?_
  rintro e w3 ⟨rfl, hp3, ho3⟩
  have hO3 := hr2.only ho3 (by omega)
  obtain ⟨x0, x1, x2, x3, x4, x5⟩ := six_cells hO3
  obtain ⟨z0, z1, z2, z3, z4, z5⟩ := six_free hO3
  have hl3 := heap_ltP hO3
  have HR1 := hdN (hp3.set (q := b) (o := 2) (v := .string V2) hpb)
  have HR2 := hdN (hO3.val V2)
  have HR3 := hdN (hr3.trans (keptP (o := 2) (v := .string V2) ho3 (Nat.le_of_lt hr1.lt) hpb))
  clear hp3 ho3 hO3 hr1 hr2 hr3
  go_wp2_with fail
  go_end0
  exact ⟨⟨_, rfl⟩, HR1.out, HR2.out, HR3.out⟩
set_option maxRecDepth 100000 in
set_option maxHeartbeats 1000000 in
theorem readN_any (p b : Nat) (r : List ByteArray) (fl : Bool) (k : Int) (ky vl : ByteArray) (n : Int) (vb vk : Value) (w w0 : World) (h : Pt w p r fl) (hl : r.length ≤ 1048577) (hz : ∀ x ∈ r, x.size ≤ 1048576) (hv : VarsP w0) (hb : Below w0.heap.size w0 w) (hp : w0.heap.size ≤ p) (hO : OpC w b k ky vl n vb vk) (hpb : p < b) :
    Calls Tryz.prog 34 #[.pointer (some ⟨p, 0, none⟩), .pointer (some ⟨b, 0, none⟩)] w fun e w' => (∃ v, e = .returned v) ∧ Pt w' p r.tail (fl || (numM (hd0 r).data.toList).isNone) ∧ OpC w' b k ky vl (nuV (hd0 r)) vb vk ∧ Below p w w' := by
  have hbl := heap_ltP hO
  have HW := hdN (number_any p 0 r fl w w0 h hl hz hv hb hp)
  change Hid (Calls _ _ _ _ fun e w' => e = .returned (.int .i64 (nuV (hd0 r))) ∧ Pt w' p r.tail (fl || (numM (hd0 r).data.toList).isNone) ∧ Only p w w') at HW
  generalize nuV (hd0 r) = V at *
  generalize (numM (hd0 r).data.toList).isNone = F at *
  have hpl := Nat.le_of_lt h.lt
  go_enter Tryz.func34, Tryz.ntmps34
  go_wp2_with fail
  refine HW.out.mono ?_
  rintro e w1 ⟨rfl, hp1, ho1⟩
  have hO1 := hO.only ho1 (by omega)
  obtain ⟨x0, x1, x2, x3, x4, x5⟩ := six_cells hO1
  obtain ⟨z0, z1, z2, z3, z4, z5⟩ := six_free hO1
  have hl1 := heap_ltP hO1
  have HR1 := hdN (hp1.set (q := b) (o := 3) (v := .int .i64 V) hpb)
  have HR2 := hdN (hO1.num V)
  have HR3 := hdN (keptP (o := 3) (v := .int .i64 V) ho1 hpl hpb)
  clear hp1 ho1 hO1 hO
  go_wp2_with fail
  go_end0
  exact ⟨⟨_, rfl⟩, HR1.out, HR2.out, HR3.out⟩
set_option maxRecDepth 100000 in
set_option maxHeartbeats 1000000 in
theorem readPoke_any (p b : Nat) (r : List ByteArray) (fl : Bool) (k : Int) (ky vl : ByteArray) (n : Int) (vb vk : Value) (w w0 : World) (h : Pt w p r fl) (hl : r.length ≤ 1048577) (hz : ∀ x ∈ r, x.size ≤ 1048576) (hv : VarsP w0) (hb : Below w0.heap.size w0 w) (hp : w0.heap.size ≤ p) (hO : OpC w b k ky vl n vb vk) (hpb : p < b) :
    Calls Tryz.prog 36 #[.pointer (some ⟨p, 0, none⟩), .pointer (some ⟨b, 0, none⟩)] w fun e w' => (∃ v, e = .returned v) ∧ Pt w' p r.tail.tail.tail (((fl || (woO (hd0 r)).isNone) || (numM (hd0 r.tail).data.toList).isNone) || (woO (hd0 r.tail.tail)).isNone) ∧ OpC w' b k (woV (hd0 r)) (woV (hd0 r.tail.tail)) (nuV (hd0 r.tail)) vb vk ∧ Below p w w' := by
  have hbl := heap_ltP hO
  have HW := hdN (word_any p r fl w h hl)
  change Hid (Calls _ _ _ _ fun e w' => e = .returned (.string (woV (hd0 r))) ∧ Pt w' p r.tail (fl || (woO (hd0 r)).isNone) ∧ Only p w w') at HW
  have HN := hdN (fun (w : World) (fl : Bool) (h : Pt w p r.tail fl) (hb : Below w0.heap.size w0 w) => number_any p 0 r.tail fl w w0 h (len_tail hl) (sub_tail hz) hv hb hp)
  change Hid (∀ (w : World) (fl : Bool) (h : Pt w p r.tail fl) (hb : Below w0.heap.size w0 w), Calls _ _ _ w fun e w' => e = .returned (.int .i64 (nuV (hd0 r.tail))) ∧ Pt w' p r.tail.tail (fl || (numM (hd0 r.tail).data.toList).isNone) ∧ Only p w w') at HN
  have HV := hdN (fun (w : World) (fl : Bool) (h : Pt w p r.tail.tail fl) => word_any p r.tail.tail fl w h (len_tail (len_tail hl)))
  change Hid (∀ (w : World) (fl : Bool) (h : Pt w p r.tail.tail fl), Calls _ _ _ w fun e w' => e = .returned (.string (woV (hd0 r.tail.tail))) ∧ Pt w' p r.tail.tail.tail (fl || (woO (hd0 r.tail.tail)).isNone) ∧ Only p w w') at HV
  generalize woV (hd0 r) = V at *
  generalize (woO (hd0 r)).isNone = F at *
  generalize nuV (hd0 r.tail) = N at *
  generalize (numM (hd0 r.tail).data.toList).isNone = F1 at *
  generalize woV (hd0 r.tail.tail) = V2 at *
  generalize (woO (hd0 r.tail.tail)).isNone = F2 at *
  have hpl := Nat.le_of_lt h.lt
  go_enter Tryz.func36, Tryz.ntmps36
  go_wp2_with fail
  refine HW.out.mono ?_
  rintro e w1 ⟨rfl, hp1, ho1⟩
  have hO1 := hO.only ho1 (by omega)
  obtain ⟨x0, x1, x2, x3, x4, x5⟩ := six_cells hO1
  obtain ⟨z0, z1, z2, z3, z4, z5⟩ := six_free hO1
  have hl1 := heap_ltP hO1
  have hr1 := hp1.set (q := b) (o := 1) (v := .string V) hpb
  have hr2 := hO1.key V
  have hr3 := keptP (o := 1) (v := .string V) ho1 hpl hpb
  clear hp1 ho1 hO1 hO
  go_wp2_with fail
  generalize w1.setCell ⟨b, 1, none⟩ (.string V) = w2 at *
  clear x0 x1 x2 x3 x4 x5 z0 z1 z2 z3 z4 z5
  refine (HN.out _ _ hr1 (hb.trans (hr3.mono hp))).mono ?_
  rintro e w3 ⟨rfl, hp3, ho3⟩
  have hO3 := hr2.only ho3 (by omega)
  obtain ⟨x0, x1, x2, x3, x4, x5⟩ := six_cells hO3
  obtain ⟨z0, z1, z2, z3, z4, z5⟩ := six_free hO3
  have hl3 := heap_ltP hO3
  have hs1 := hp3.set (q := b) (o := 3) (v := .int .i64 N) hpb
  have hs2 := hO3.num N
  have hs3 := hr3.trans (keptP (o := 3) (v := .int .i64 N) ho3 (Nat.le_of_lt hr1.lt) hpb)
  clear hp3 ho3 hO3 hr1 hr2 hr3
  go_wp2_with fail
  generalize w3.setCell ⟨b, 3, none⟩ (.int .i64 N) = w4 at *
  clear x0 x1 x2 x3 x4 x5 z0 z1 z2 z3 z4 z5
  refine (HV.out _ _ hs1).mono ?_
  rintro e w5 ⟨rfl, hp3, ho3⟩
  have hO3 := hs2.only ho3 (by omega)
  obtain ⟨x0, x1, x2, x3, x4, x5⟩ := six_cells hO3
  obtain ⟨z0, z1, z2, z3, z4, z5⟩ := six_free hO3
  have hl5 := heap_ltP hO3
  have HR1 := hdN (hp3.set (q := b) (o := 2) (v := .string V2) hpb)
  have HR2 := hdN (hO3.val V2)
  have HR3 := hdN (hs3.trans (keptP (o := 2) (v := .string V2) ho3 (Nat.le_of_lt hs1.lt) hpb))
  clear hp3 ho3 hO3 hs1 hs2 hs3
  go_wp2_with fail
  go_end0
  exact ⟨⟨_, rfl⟩, HR1.out, HR2.out, HR3.out⟩
end Go.Proofs.YtohpfjpgihcmiaaGreatDoor
