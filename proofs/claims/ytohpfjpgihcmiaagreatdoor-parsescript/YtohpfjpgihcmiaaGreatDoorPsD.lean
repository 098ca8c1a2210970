import Derived.Test.YtohpfjpgihcmiaaGreatDoorPsC

namespace Go.Proofs.YtohpfjpgihcmiaaGreatDoor
open Go.RowKit Go.Maps
set_option linter.unusedVariables false
set_option linter.unusedSimpArgs false

/-- Only block p has changed. -/
structure Only (p : Nat) (w w' : World) : Prop where
  os : w'.os = w.os
  tape : w'.tape = w.tape
  output : w'.output = w.output
  size : w.heap.size ≤ w'.heap.size
  block : ∀ k, k < w.heap.size → k ≠ p → w'.heap[k]? = w.heap[k]?
theorem Only.refl (p : Nat) (w : World) : Only p w w := ⟨rfl, rfl, rfl, Nat.le_refl _, fun _ _ _ => rfl⟩
theorem Only.trans {p : Nat} {a b c : World} (h : Only p a b) (k : Only p b c) : Only p a c :=
  ⟨k.os.trans h.os, k.tape.trans h.tape, k.output.trans h.output, Nat.le_trans h.size k.size, fun i hi hn => (k.block i (Nat.lt_of_lt_of_le hi h.size) hn).trans (h.block i hi hn)⟩
theorem Only.of {p : Nat} {w w' : World} (h : Below w.heap.size w w') : Only p w w' := ⟨h.os, h.tape, h.output, h.size, fun k hk _ => h.block k hk⟩
theorem Only.set {p : Nat} (w : World) (o : Nat) (v : Value) : Only p w (w.setCell ⟨p, o, none⟩ v) :=
  ⟨rfl, rfl, rfl, by simp [World.setCell], fun k _ hn => Below.heap_setCell _ _ _ _ (by simpa using hn)⟩
theorem Only.below {p B : Nat} {w w' : World} (h : Only p w w') (hp : B ≤ p) (hB : B ≤ w.heap.size) : Below B w w' :=
  ⟨h.os, h.tape, h.output, h.size, fun k hk => h.block k (by omega) (by omega)⟩
theorem two_cellsP {w : World} {b : Nat} {x y : Value} {t : TypeId} (h : w.heap[b]? = some (.cells #[x, y] t (0, 0))) :
    w.cell? ⟨b, 0, none⟩ = some x ∧ w.cell? ⟨b, 1, none⟩ = some y ∧ w.frozen? ⟨b, 0, none⟩ = false ∧ w.frozen? ⟨b, 1, none⟩ = false ∧ b < w.heap.size := by
  refine ⟨?_, ?_, ?_, ?_, heap_ltP h⟩
  · simp [World.cell?, h]
  · simp [World.cell?, h]
  · simp [World.frozen?, h]
  · simp [World.frozen?, h]

/-- The parts of a line that are not yet read, and whether there was a fault. -/
def Pt (w : World) (p : Nat) (r : List ByteArray) (fl : Bool) : Prop :=
  ∃ a cap, w.heap[p]? = some (.cells #[.slice a r.length cap, .bool fl] 73 (0, 0)) ∧ r.length ≤ cap ∧ LieP w a r ∧ ∀ b off, a = some ⟨b, off, none⟩ → b < p
theorem LieP.only {w w' : World} {p : Nat} {a : Option Addr} {xs : List ByteArray} (h : LieP w a xs) (ho : Only p w w') (hn : ∀ b off, a = some ⟨b, off, none⟩ → b ≠ p) : LieP w' a xs := by
  rcases h with rfl | ⟨b, off, rfl, hlt, hc⟩
  · exact .inl rfl
  · exact .inr ⟨b, off, rfl, Nat.lt_of_lt_of_le hlt ho.size, fun i hi => (World.cell?_of_block (w := w) (ho.block b hlt (hn b off rfl))).trans (hc i hi)⟩
theorem Pt.below {w w' : World} {p : Nat} {r : List ByteArray} {fl : Bool} (h : Pt w p r fl) (hb : Below w.heap.size w w') : Pt w' p r fl := by
  obtain ⟨a, cap, h1, h2, h3, h4⟩ := h
  exact ⟨a, cap, (hb.block p (heap_ltP h1)).trans h1, h2, h3.below hb, h4⟩
theorem Pt.only {w w' : World} {p q : Nat} {r : List ByteArray} {fl : Bool} (h : Pt w p r fl) (ho : Only q w w') (hq : p < q) : Pt w' p r fl := by
  obtain ⟨a, cap, h1, h2, h3, h4⟩ := h
  exact ⟨a, cap, (ho.block p (heap_ltP h1) (Nat.ne_of_lt hq)).trans h1, h2, h3.only ho (fun b off e => Nat.ne_of_lt (Nat.lt_trans (h4 b off e) hq)), h4⟩
theorem Pt.set {w : World} {p q o : Nat} {v : Value} {r : List ByteArray} {fl : Bool} (h : Pt w p r fl) (hq : p < q) : Pt (w.setCell ⟨q, o, none⟩ v) p r fl := h.only (Only.set w o v) hq
theorem Only.setNew {p q o : Nat} {v : Value} {w w' : World} (h : Only p w w') (hq : w.heap.size ≤ q) : Only p w (w'.setCell ⟨q, o, none⟩ v) :=
  ⟨h.os, h.tape, h.output, by simpa [World.setCell] using h.size, fun k hk hn => (Below.heap_setCell _ _ _ _ (by simp; omega)).trans (h.block k hk hn)⟩
theorem Only.alloc {p : Nat} {w w' : World} (h : Only p w w') (o : Obj) : Only p w (w'.alloc o) :=
  h.trans (Only.of ((Below.refl _ _).alloc (Nat.le_refl _) _))
theorem Pt.fault {w : World} {p : Nat} {r : List ByteArray} {fl : Bool} (h : Pt w p r fl) : Pt (w.setCell ⟨p, 1, none⟩ (.bool true)) p r true := by
  obtain ⟨a, cap, h1, h2, h3, h4⟩ := h
  refine ⟨a, cap, ?_, h2, h3.only (Only.set w 1 _) (fun b off e => Nat.ne_of_lt (h4 b off e)), h4⟩
  rw [heap_setCell_same _ _ _ _ _ _ h1]
  simp
theorem Pt.lt {w : World} {p : Nat} {r : List ByteArray} {fl : Bool} (h : Pt w p r fl) : p < w.heap.size := by
  obtain ⟨a, cap, h1, -⟩ := h
  exact heap_ltP h1

set_option maxRecDepth 100000 in
theorem more_any (p : Nat) (r : List ByteArray) (fl : Bool) (w : World) (h : Pt w p r fl) (hl : r.length ≤ 1048577) :
    Calls Tryz.prog 47 #[.pointer (some ⟨p, 0, none⟩)] w fun e w' => e = .returned (.bool (decide (0 < r.length))) ∧ w' = w := by
  obtain ⟨a, cap, h1, h2, h3, h4⟩ := h
  obtain ⟨c0, c1, z0, z1, hlt⟩ := two_cellsP h1
  clear h1 h3 h4
  generalize r.length = len at *
  go_enter Tryz.func47, Tryz.ntmps47
  go_wp2_with fail
  go_ret
  exact ⟨by first | rfl | simp, rfl⟩
set_option maxRecDepth 100000 in
set_option maxHeartbeats 1000000 in
theorem next_any (p : Nat) (r : List ByteArray) (fl : Bool) (w : World) (h : Pt w p r fl) (hl : r.length ≤ 1048577) :
    Calls Tryz.prog 27 #[.pointer (some ⟨p, 0, none⟩)] w fun e w' => e = .returned (.string (r.headD ByteArray.empty)) ∧ Pt w' p r.tail fl ∧ Only p w w' := by
  have HM := hdN (more_any p r fl w h hl)
  cases r with
  | nil =>
    go_enter Tryz.func27, Tryz.ntmps27
    go_wp2_with fail
    refine HM.out.mono ?_
    rintro e w' ⟨rfl, rfl⟩
    go_wp2_with fail
    go_ret
    exact ⟨rfl, h, Only.refl _ _⟩
  | cons x r =>
    obtain ⟨a, cap, h1, h2, h3, h4⟩ := h
    obtain ⟨c0, c1, z0, z1, hlt⟩ := two_cellsP h1
    have h3' := h3
    rcases h3' with h | ⟨b, off, rfl, hbl, hc⟩
    · cases h
    have hx := hc 0 (by simp)
    simp only [Nat.add_zero, List.getD_cons_zero] at hx
    have hlt1 := h3.tail
    have hbp := h4 b off rfl
    have HP : Hid (Pt (w.setCell ⟨p, 0, none⟩ (.slice (some ⟨b, off + 1, none⟩) r.length (cap - 1))) p r fl) := by
      refine ⟨some ⟨b, off + 1, none⟩, cap - 1, ?_, by simp at h2; omega, hlt1.only (Only.set w 0 _) (fun b' off' e => by cases e; exact Nat.ne_of_lt hbp), fun b' off' e => by cases e; exact hbp⟩
      rw [heap_setCell_same _ _ _ _ _ _ h1]
      simp
    have HN : Hid (Calls Tryz.prog 47 #[.pointer (some ⟨p, 0, none⟩)] w fun e w' => e = .returned (.bool true) ∧ w' = w) := by
      refine HM.out.mono ?_
      rintro e w' ⟨rfl, rfl⟩
      exact ⟨by simp, rfl⟩
    have HP0 : Hid (cap = 1 → Pt (w.setCell ⟨p, 0, none⟩ (.slice (some ⟨b, off, none⟩) 0 0)) p r fl) := fun h => by
      have hr : r = [] := List.eq_nil_of_length_eq_zero (by simp at h2; omega)
      subst hr
      refine ⟨some ⟨b, off, none⟩, 0, ?_, Nat.le_refl _, .inl rfl, h4⟩
      rw [heap_setCell_same _ _ _ _ _ _ h1]
      simp
    simp only [List.length_cons] at *
    clear h3 hc h4 hlt1 HM h1
    simp only [List.headD_cons, List.tail_cons]
    generalize r.length = len at *
    by_cases hcap : cap = 1
    · subst hcap
      go_enter Tryz.func27, Tryz.ntmps27
      go_wp2_with fail
      refine HN.out.mono ?_
      rintro e w' ⟨rfl, rfl⟩
      go_wp2_with fail
      go_ret
      exact ⟨rfl, HP0.out trivial, Only.set _ _ _⟩
    · have hcap1 : 1 ≤ cap := by omega
      have hcap2 : ¬ cap - 1 = 0 := by omega
      go_enter Tryz.func27, Tryz.ntmps27
      go_wp2_with fail
      refine HN.out.mono ?_
      rintro e w' ⟨rfl, rfl⟩
      go_wp2_with fail
      go_ret
      exact ⟨rfl, HP.out, Only.set _ _ _⟩
end Go.Proofs.YtohpfjpgihcmiaaGreatDoor
