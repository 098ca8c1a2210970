import Derived.Test.YtgmfjninimebmaaGreatDoorMgEntB
namespace Go.Proofs.YtgmfjninimebmaaGreatDoor
open Go.RowKit Go.Maps
set_option linter.unusedVariables false
set_option linter.unusedSimpArgs false

theorem hd {p : Prop} (h : p) : Hid p := h
/-- Only block p has changed. -/
structure Only (p : Nat) (w w' : World) : Prop where
  os : w'.os = w.os
  tape : w'.tape = w.tape
  output : w'.output = w.output
  size : w.heap.size ≤ w'.heap.size
  block : ∀ k, k < w.heap.size → k ≠ p → w'.heap[k]? = w.heap[k]?
theorem Only.refl (p : Nat) (w : World) : Only p w w := ⟨rfl, rfl, rfl, Nat.le_refl _, fun _ _ _ => rfl⟩
theorem Only.trans {p : Nat} {a b c : World} (h : Only p a b) (k : Only p b c) : Only p a c :=
  ⟨k.os.trans h.os, k.tape.trans h.tape, k.output.trans h.output, Nat.le_trans h.size k.size, fun i hi hn => (k.block i (Nat.lt_of_lt_of_le hi h.size) hn).trans (h.block i hi hn)⟩
theorem Only.of {p : Nat} {w w' : World} (h : Below w.heap.size w w') : Only p w w' := ⟨h.os, h.tape, h.output, h.size, fun k hk _ => h.block k hk⟩
theorem Only.set {p : Nat} (w : World) (o : Nat) (v : Value) : Only p w (w.setCell ⟨p, o, none⟩ v) :=
  ⟨rfl, rfl, rfl, by simp [World.setCell], fun k _ hn => Below.heap_setCell _ _ _ _ (by simpa using hn)⟩
theorem Only.below {p B : Nat} {w w' : World} (h : Only p w w') (hp : B ≤ p) (hB : B ≤ w.heap.size) : Below B w w' :=
  ⟨h.os, h.tape, h.output, h.size, fun k hk => h.block k (by omega) (by omega)⟩

/-- A reader at block p: its text, its place, whether it has met a fault. -/
def Rd (w : World) (p : Nat) (s : ByteArray) (A : Nat) (fl : Bool) : Prop := w.heap[p]? = some (.cells #[.string s, .int .i64 A, .bool fl] 170 (0, 0))
theorem Rd.cells {w : World} {p : Nat} {s : ByteArray} {A : Nat} {fl : Bool} (h : Rd w p s A fl) :
    w.cell? ⟨p, 0, none⟩ = some (.string s) ∧ w.cell? ⟨p, 1, none⟩ = some (.int .i64 A) ∧ w.cell? ⟨p, 2, none⟩ = some (.bool fl) ∧ w.frozen? ⟨p, 1, none⟩ = false ∧ w.frozen? ⟨p, 2, none⟩ = false ∧ p < w.heap.size := by
  unfold Rd at h
  refine ⟨?_, ?_, ?_, ?_, ?_, ?_⟩
  · simp [World.cell?, h]
  · simp [World.cell?, h]
  · simp [World.cell?, h]
  · simp [World.frozen?, h]
  · simp [World.frozen?, h]
  · by_cases hlt : p < w.heap.size
    · exact hlt
    · rw [Array.getElem?_eq_none (by omega)] at h; cases h
theorem Rd.below {w w' : World} {p : Nat} {s : ByteArray} {A : Nat} {fl : Bool} (h : Rd w p s A fl) (hb : Below w.heap.size w w') : Rd w' p s A fl := (hb.block p h.cells.2.2.2.2.2).trans h
theorem Rd.move {w : World} {p : Nat} {s : ByteArray} {A B : Nat} {fl : Bool} (h : Rd w p s A fl) : Rd (w.setCell ⟨p, 1, none⟩ (.int .i64 B)) p s B fl := by
  unfold Rd at *
  rw [heap_setCell_same _ _ _ _ _ _ h]
  simp
theorem Rd.fault {w : World} {p : Nat} {s : ByteArray} {A : Nat} {fl : Bool} (h : Rd w p s A fl) : Rd (w.setCell ⟨p, 2, none⟩ (.bool true)) p s A true := by
  unfold Rd at *
  rw [heap_setCell_same _ _ _ _ _ _ h]
  simp

/-- Reading a number: the number, the place, whether there was a fault. -/
def rdN (s : ByteArray) (A : Nat) (fl : Bool) : Nat × Nat × Bool := match gv s (A : Int) with
  | none => (0, A, true)
  | some (n, c) => (n, A + c, fl)
/-- Taking n bytes. -/
def rdT (s : ByteArray) (n A : Nat) (fl : Bool) : ByteArray × Nat × Bool := if n ≤ s.size - A then (cut s A (A + n), A + n, fl) else (⟨#[]⟩, A, true)

set_option maxRecDepth 100000 in
set_option maxHeartbeats 1000000 in
theorem number_any (p A : Nat) (s : ByteArray) (fl : Bool) (w : World) (h : Rd w p s A fl) (hs : s.size ≤ 1048576) :
    Calls Tryz.prog 148 #[.pointer (some ⟨p, 0, none⟩)] w fun e w' => e = .returned (.int .i64 (rdN s A fl).1) ∧ Rd w' p s (rdN s A fl).2.1 (rdN s A fl).2.2 ∧ Only p w w' := by
  obtain ⟨c0, c1, c2, z1, z2, hlt⟩ := h.cells
  have HS : Hid (s.size ≤ maxLen) := by show _ ≤ _; unfold maxLen; omega
  cases hg : gv s (A : Int) with
  | none =>
    have HG : Hid (gvV (A : Int) (gv s (A : Int)) = .tuple #[.int .i64 0, .int .i64 0, .bool false]) := by show _ = _; rw [hg]; rfl
    have e : rdN s A fl = (0, A, true) := by simp only [rdN, hg]
    rw [e]
    go_enter Tryz.func148, Tryz.ntmps148
    go_wp2_with fail
    go_region_held3 (fun w' => w'.cell? ⟨p, 0, none⟩ = some (.string s) ∧ w'.cell? ⟨p, 1, none⟩ = some (.int .i64 (A : Int))) (simp [go_sem, *])
      (first | (go_at_call 44; refine (implGet_any s (A : Int) _ HS.out).mono ?_; rintro e w1 ⟨rfl, hb1⟩; rw [HG.out]; have k0 := (hb1.cell (p := ⟨p, 0, none⟩) hlt).trans c0; have k1 := (hb1.cell (p := ⟨p, 1, none⟩) hlt).trans c1; have k2 := (hb1.cell (p := ⟨p, 2, none⟩) hlt).trans c2; have y2 := (hb1.frozen (p := ⟨p, 2, none⟩) hlt).trans z2; have HB1 : Hid (Below w.heap.size w w1) := (Below.refl _ w).drew.trans hb1; have HR1 : Hid (Rd w1 p s A fl) := (h.below (Below.refl _ w).drew).below hb1))
    all_goals go_wp2_with fail
    all_goals go_ret
    all_goals exact ⟨rfl, HR1.out.fault, (Only.of HB1.out).trans (Only.set _ _ _)⟩
  | some q =>
    obtain ⟨n, c⟩ := q
    have HG : Hid (gvV (A : Int) (gv s (A : Int)) = .tuple #[.int .i64 n, .int .i64 ((A : Int) + c), .bool true]) := by show _ = _; rw [hg]; rfl
    have e : rdN s A fl = (n, A + c, fl) := by simp only [rdN, hg]
    rw [e]
    go_enter Tryz.func148, Tryz.ntmps148
    go_wp2_with fail
    go_region_held3 (fun w' => w'.cell? ⟨p, 0, none⟩ = some (.string s) ∧ w'.cell? ⟨p, 1, none⟩ = some (.int .i64 (A : Int))) (simp [go_sem, *])
      (first | (go_at_call 44; refine (implGet_any s (A : Int) _ HS.out).mono ?_; rintro e w1 ⟨rfl, hb1⟩; rw [HG.out]; have k0 := (hb1.cell (p := ⟨p, 0, none⟩) hlt).trans c0; have k1 := (hb1.cell (p := ⟨p, 1, none⟩) hlt).trans c1; have y1 := (hb1.frozen (p := ⟨p, 1, none⟩) hlt).trans z1; have HB1 : Hid (Below w.heap.size w w1) := (Below.refl _ w).drew.trans hb1; have HR1 : Hid (Rd w1 p s A fl) := (h.below (Below.refl _ w).drew).below hb1))
    all_goals go_wp2_with fail
    all_goals go_ret
    all_goals exact ⟨rfl, HR1.out.move (B := A + c), (Only.of HB1.out).trans (Only.set _ _ _)⟩

set_option maxRecDepth 100000 in
set_option maxHeartbeats 1000000 in
theorem take_any (p A n : Nat) (s : ByteArray) (fl : Bool) (w : World) (h : Rd w p s A fl) (hs : s.size ≤ 1048576) (hA : A ≤ s.size) (hn : n ≤ 72057594037927935) :
    Calls Tryz.prog 165 #[.pointer (some ⟨p, 0, none⟩), .int .i64 n] w fun e w' => e = .returned (.string (rdT s n A fl).1) ∧ Rd w' p s (rdT s n A fl).2.1 (rdT s n A fl).2.2 ∧ Only p w w' := by
  obtain ⟨c0, c1, c2, z1, z2, hlt⟩ := h.cells
  have hwr : IntKind.i64.wrap ((s.size : Int) - A) = (s.size : Int) - A := by rw [IntKind.wrap_i64]; omega
  by_cases hle : n ≤ s.size - A
  · have e : rdT s n A fl = (cut s A (A + n), A + n, fl) := by simp only [rdT, if_pos hle]
    rw [e]
    have h1 : ¬ (s.size : Int) - A < n := by omega
    go_enter Tryz.func165, Tryz.ntmps165
    go_wp2_with fail
    go_quiet (fail)
    go_wp2_with fail
    have hR2 : Rd ((w.drewN nq).setCell ⟨p, 1, none⟩ (.int .i64 ((A : Int) + n))) p s (A + n) fl := by
      have := Rd.move (w := w.drewN nq) (B := A + n) h
      rw [Int.natCast_add] at this
      exact this
    have hO2 : Only p w ((w.drewN nq).setCell ⟨p, 1, none⟩ (.int .i64 ((A : Int) + n))) := (⟨rfl, rfl, rfl, Nat.le_refl _, fun _ _ _ => rfl⟩ : Only p w (w.drewN nq)).trans (Only.set _ _ _)
    generalize (w.drewN nq).setCell ⟨p, 1, none⟩ (.int .i64 ((A : Int) + n)) = w2 at *
    obtain ⟨d0, d1, -, -, -, -⟩ := hR2.cells
    rw [Int.natCast_add] at d1
    have hw1 : IntKind.i64.wrap ((A : Int) + n - n) = (A : Int) := by rw [IntKind.wrap_i64]; omega
    have hw2 : IntKind.i64.wrap (A : Int) = (A : Int) := by rw [IntKind.wrap_i64]; omega
    have b1 : (0 : Int) ≤ A := by omega
    have b2 : (A : Int) ≤ (A : Int) + n := by omega
    have b3 : (A : Int) + n ≤ s.size := by omega
    clear c0 c1 c2 z1 z2
    go_quiet (fail)
    go_wp2_with fail
    go_ret
    exact ⟨rfl, hR2, hO2.trans ⟨rfl, rfl, rfl, Nat.le_refl _, fun _ _ _ => rfl⟩⟩
  · have e : rdT s n A fl = (⟨#[]⟩, A, true) := by simp only [rdT, if_neg hle]
    rw [e]
    have h1 : (s.size : Int) - A < n := by omega
    go_enter Tryz.func165, Tryz.ntmps165
    go_wp2_with fail
    go_quiet (fail)
    go_wp2_with fail
    go_ret
    exact ⟨rfl, Rd.fault (w := w.drewN nq) h, (⟨rfl, rfl, rfl, Nat.le_refl _, fun _ _ _ => rfl⟩ : Only p w (w.drewN nq)).trans (Only.set _ _ _)⟩

/-- A text with its size ahead. -/
def rdS (s : ByteArray) (A : Nat) (fl : Bool) : ByteArray × Nat × Bool := rdT s (rdN s A fl).1 (rdN s A fl).2.1 (rdN s A fl).2.2
/-- A byte. -/
def rdB (s : ByteArray) (A : Nat) (fl : Bool) : Int × Nat × Bool := if h : A < s.size then ((s[A].toNat : Int), A + 1, fl) else (0, A, true)

theorem rdN_le {s : ByteArray} {A : Nat} (fl : Bool) (hA : A ≤ s.size) : (rdN s A fl).2.1 ≤ s.size ∧ (rdN s A fl).1 ≤ 72057594037927935 := by
  unfold rdN
  split
  · exact ⟨hA, by simp⟩
  · rename_i n c hg
    obtain ⟨-, h2, h3, -⟩ := gv_some hg
    exact ⟨h2, h3⟩
theorem rdT_le {s : ByteArray} {A : Nat} (n : Nat) (fl : Bool) (hA : A ≤ s.size) : (rdT s n A fl).2.1 ≤ s.size ∧ (rdT s n A fl).1.size ≤ s.size := by
  unfold rdT
  split
  · dsimp only; rw [cut_size s A n (by omega)]; omega
  · exact ⟨hA, Nat.zero_le _⟩
theorem rdS_le {s : ByteArray} {A : Nat} (fl : Bool) (hA : A ≤ s.size) : (rdS s A fl).2.1 ≤ s.size ∧ (rdS s A fl).1.size ≤ s.size := rdT_le _ _ (rdN_le fl hA).1
theorem rdB_le {s : ByteArray} {A : Nat} (fl : Bool) (hA : A ≤ s.size) : (rdB s A fl).2.1 ≤ s.size := by
  unfold rdB
  split
  · dsimp only; omega
  · exact hA
/-- Reading an entry. -/
def rdE (s : ByteArray) (A : Nat) (fl : Bool) : En × Nat × Bool :=
  (⟨(rdS s A fl).1, ((rdN s (rdS s A fl).2.1 (rdS s A fl).2.2).1 : Int), (rdB s (rdN s (rdS s A fl).2.1 (rdS s A fl).2.2).2.1 (rdN s (rdS s A fl).2.1 (rdS s A fl).2.2).2.2).1,
    (rdS s (rdB s (rdN s (rdS s A fl).2.1 (rdS s A fl).2.2).2.1 (rdN s (rdS s A fl).2.1 (rdS s A fl).2.2).2.2).2.1 (rdB s (rdN s (rdS s A fl).2.1 (rdS s A fl).2.2).2.1 (rdN s (rdS s A fl).2.1 (rdS s A fl).2.2).2.2).2.2).1⟩,
   (rdS s (rdB s (rdN s (rdS s A fl).2.1 (rdS s A fl).2.2).2.1 (rdN s (rdS s A fl).2.1 (rdS s A fl).2.2).2.2).2.1 (rdB s (rdN s (rdS s A fl).2.1 (rdS s A fl).2.2).2.1 (rdN s (rdS s A fl).2.1 (rdS s A fl).2.2).2.2).2.2).2)

theorem rdN_fl (s : ByteArray) (A : Nat) : (rdN s A true).2.2 = true := by unfold rdN; split <;> rfl
theorem rdT_fl (s : ByteArray) (n A : Nat) : (rdT s n A true).2.2 = true := by unfold rdT; split <;> rfl
theorem rdS_fl (s : ByteArray) (A : Nat) : (rdS s A true).2.2 = true := by unfold rdS; rw [rdN_fl]; exact rdT_fl _ _ _
theorem rdB_fl (s : ByteArray) (A : Nat) : (rdB s A true).2.2 = true := by unfold rdB; split <;> rfl
theorem rdE_fl (s : ByteArray) (A : Nat) : (rdE s A true).2.2 = true := by
  show (rdS s _ _).2.2 = true
  rw [rdS_fl, rdN_fl, rdB_fl, rdS_fl]
theorem rdS_pc (s : ByteArray) (A : Nat) : (∃ t B, pc s A = some (t, B) ∧ rdS s A false = (t, B, false)) ∨ (pc s A = none ∧ (rdS s A false).2.2 = true) := by
  unfold pc rdS rdN
  cases hg : gv s (A : Int) with
  | none => exact .inr ⟨rfl, rdT_fl _ _ _⟩
  | some q =>
    obtain ⟨n, c⟩ := q
    dsimp only
    unfold rdT
    by_cases h : n ≤ s.size - (A + c)
    · rw [if_pos h, if_pos h]; exact .inl ⟨_, _, rfl, rfl⟩
    · rw [if_neg h, if_neg h]; exact .inr ⟨rfl, rfl⟩
theorem rdN_gv (s : ByteArray) (A : Nat) : (∃ n c, gv s (A : Int) = some (n, c) ∧ rdN s A false = (n, A + c, false)) ∨ (gv s (A : Int) = none ∧ (rdN s A false).2.2 = true) := by
  unfold rdN
  cases hg : gv s (A : Int) with
  | none => exact .inr ⟨rfl, rfl⟩
  | some q => exact .inl ⟨q.1, q.2, rfl, rfl⟩
/-- The reader reads what stands there. -/
theorem rdE_pe (s : ByteArray) (A : Nat) : (∃ e E, pe s A = some (e, E) ∧ rdE s A false = (e, E, false)) ∨ (pe s A = none ∧ (rdE s A false).2.2 = true) := by
  unfold pe
  rcases rdS_pc s A with ⟨t, B, hp, hr⟩ | ⟨hp, hr⟩
  · rw [hp]
    dsimp only
    rcases rdN_gv s B with ⟨n, c, hg, hn⟩ | ⟨hg, hn⟩
    · rw [hg]
      dsimp only
      by_cases hlt : B + c < s.size
      · rw [dif_pos hlt]
        have hb : rdB s (B + c) false = ((s[B + c].toNat : Int), B + c + 1, false) := by unfold rdB; rw [dif_pos hlt]
        rcases rdS_pc s (B + c + 1) with ⟨v, E, hv, hr2⟩ | ⟨hv, hr2⟩
        · rw [hv]
          refine .inl ⟨_, _, rfl, ?_⟩
          unfold rdE
          rw [hr]; dsimp only
          rw [hn]; dsimp only
          rw [hb]; dsimp only
          rw [hr2]
        · rw [hv]
          refine .inr ⟨rfl, ?_⟩
          unfold rdE
          rw [hr]; dsimp only
          rw [hn]; dsimp only
          rw [hb]; dsimp only
          exact hr2
      · rw [dif_neg hlt]
        refine .inr ⟨rfl, ?_⟩
        have hb : (rdB s (B + c) false).2.2 = true := by unfold rdB; rw [dif_neg hlt]
        unfold rdE
        rw [hr]; dsimp only
        rw [hn]; dsimp only
        rw [hb]; exact rdS_fl _ _
    · rw [hg]
      refine .inr ⟨rfl, ?_⟩
      unfold rdE
      rw [hr]; dsimp only
      rw [hn, rdB_fl]; exact rdS_fl _ _
  · rw [hp]
    refine .inr ⟨rfl, ?_⟩
    unfold rdE
    dsimp only
    rw [hr, rdN_fl, rdB_fl]; exact rdS_fl _ _

set_option maxRecDepth 100000 in
set_option maxHeartbeats 1000000 in
theorem sized_any (p A : Nat) (s : ByteArray) (fl : Bool) (w : World) (h : Rd w p s A fl) (hs : s.size ≤ 1048576) (hA : A ≤ s.size) :
    Calls Tryz.prog 149 #[.pointer (some ⟨p, 0, none⟩)] w fun e w' => e = .returned (.string (rdS s A fl).1) ∧ Rd w' p s (rdS s A fl).2.1 (rdS s A fl).2.2 ∧ Only p w w' := by
  obtain ⟨l1, l2⟩ := rdN_le fl hA
  go_enter Tryz.func149, Tryz.ntmps149
  go_wp2_with fail
  refine (number_any p A s fl _ h hs).mono ?_
  rintro e w1 ⟨rfl, h1, ho1⟩
  go_wp2_with fail
  refine (take_any p _ _ s _ _ h1 hs l1 l2).mono ?_
  rintro e w2 ⟨rfl, h2, ho2⟩
  go_wp2_with fail
  go_ret
  exact ⟨rfl, h2, ho1.trans ho2⟩

theorem cut_one (s : ByteArray) (A : Nat) (h : A < s.size) : cut s A (A + 1) = ⟨#[s[A]]⟩ := by
  apply ByteArray.ext
  apply Array.toList_inj.1
  rw [cut_data s A 1 (by omega)]
  have h' : A < s.data.toList.length := by rw [dataL]; exact h
  rw [List.drop_eq_getElem_cons h']
  rfl

set_option maxRecDepth 100000 in
set_option maxHeartbeats 1000000 in
theorem byte_any (p A : Nat) (s : ByteArray) (fl : Bool) (w : World) (h : Rd w p s A fl) (hs : s.size ≤ 1048576) (hA : A ≤ s.size) :
    Calls Tryz.prog 150 #[.pointer (some ⟨p, 0, none⟩)] w fun e w' => e = .returned (.int .i64 (rdB s A fl).1) ∧ Rd w' p s (rdB s A fl).2.1 (rdB s A fl).2.2 ∧ Only p w w' := by
  by_cases hlt : A < s.size
  · have e1 : rdT s 1 A fl = (⟨#[s[A]]⟩, A + 1, fl) := by unfold rdT; rw [if_pos (by omega), cut_one s A hlt]
    have e2 : rdB s A fl = ((s[A].toNat : Int), A + 1, fl) := by unfold rdB; rw [dif_pos hlt]
    rw [e2]
    have HT := take_any p A 1 s fl w h hs hA (by omega)
    rw [e1] at HT
    replace HT := hd HT
    have hbl := s[A].toNat_lt
    generalize s[A] = x at *
    go_enter Tryz.func150, Tryz.ntmps150
    go_wp2_with fail
    refine HT.out.mono ?_
    rintro e w1 ⟨rfl, h1, ho1⟩
    go_wp2_with fail
    have hwx : wrap64 (x.toNat : Int) = x.toNat := by unfold wrap64; omega
    go_ret
    refine ⟨?_, h1, ho1⟩
    show Ending.returned (.int .i64 (wrap64 (x.toNat : Int))) = _
    rw [hwx]
  · have e1 : rdT s 1 A fl = (⟨#[]⟩, A, true) := by unfold rdT; rw [if_neg (by omega)]
    have e2 : rdB s A fl = (0, A, true) := by unfold rdB; rw [dif_neg hlt]
    rw [e2]
    have HT := take_any p A 1 s fl w h hs hA (by omega)
    rw [e1] at HT
    replace HT := hd HT
    go_enter Tryz.func150, Tryz.ntmps150
    go_wp2_with fail
    refine HT.out.mono ?_
    rintro e w1 ⟨rfl, h1, ho1⟩
    go_wp2_with fail
    go_ret
    exact ⟨rfl, h1, ho1⟩
end Go.Proofs.YtgmfjninimebmaaGreatDoor
namespace Go.Proofs.YtgmfjninimebmaaGreatDoor
open Go.RowKit Go.Maps
set_option linter.unusedVariables false
set_option linter.unusedSimpArgs false

theorem heap_lt {w : World} {g : Nat} {o : Obj} (h : w.heap[g]? = some o) : g < w.heap.size := by
  by_cases hlt : g < w.heap.size
  · exact hlt
  · rw [Array.getElem?_eq_none (by omega)] at h; cases h
theorem four_cells {w : World} {p : Nat} {t : TypeId} {x0 x1 x2 x3 : Value} (h : w.heap[p]? = some (.cells #[x0, x1, x2, x3] t (0, 0))) :
    (w.cell? ⟨p, 0, none⟩ = some x0 ∧ w.cell? ⟨p, 1, none⟩ = some x1 ∧ w.cell? ⟨p, 2, none⟩ = some x2 ∧ w.cell? ⟨p, 3, none⟩ = some x3) ∧ w.frozen? ⟨p, 0, none⟩ = false ∧ w.frozen? ⟨p, 1, none⟩ = false ∧ w.frozen? ⟨p, 2, none⟩ = false ∧ w.frozen? ⟨p, 3, none⟩ = false := by
  refine ⟨⟨?_, ?_, ?_, ?_⟩, ?_, ?_, ?_, ?_⟩ <;> simp [World.cell?, World.frozen?, h]

set_option maxRecDepth 100000 in
set_option maxHeartbeats 1000000 in
theorem entry_any (p A : Nat) (s : ByteArray) (fl : Bool) (w : World) (h : Rd w p s A fl) (hs : s.size ≤ 1048576) (hA : A ≤ s.size) :
    Calls Tryz.prog 118 #[.pointer (some ⟨p, 0, none⟩)] w fun e w' => e = .returned (rdE s A fl).1.agg ∧ Rd w' p s (rdE s A fl).2.1 (rdE s A fl).2.2 ∧ Only p w w' := by
  have l1 := (rdS_le fl hA).1
  have HE : Hid (rdE s A fl = (⟨(rdS s A fl).1, ((rdN s (rdS s A fl).2.1 (rdS s A fl).2.2).1 : Int), (rdB s (rdN s (rdS s A fl).2.1 (rdS s A fl).2.2).2.1 (rdN s (rdS s A fl).2.1 (rdS s A fl).2.2).2.2).1,
    (rdS s (rdB s (rdN s (rdS s A fl).2.1 (rdS s A fl).2.2).2.1 (rdN s (rdS s A fl).2.1 (rdS s A fl).2.2).2.2).2.1 (rdB s (rdN s (rdS s A fl).2.1 (rdS s A fl).2.2).2.1 (rdN s (rdS s A fl).2.1 (rdS s A fl).2.2).2.2).2.2).1⟩,
   (rdS s (rdB s (rdN s (rdS s A fl).2.1 (rdS s A fl).2.2).2.1 (rdN s (rdS s A fl).2.1 (rdS s A fl).2.2).2.2).2.1 (rdB s (rdN s (rdS s A fl).2.1 (rdS s A fl).2.2).2.1 (rdN s (rdS s A fl).2.1 (rdS s A fl).2.2).2.2).2.2).2)) := rfl
  have HS := fun (w : World) (h : Rd w p s A fl) => sized_any p A s fl w h hs hA
  generalize rdS s A fl = r1 at *
  have l2 := (rdN_le r1.2.2 l1).1
  have HN := fun (w : World) (h : Rd w p s r1.2.1 r1.2.2) => number_any p r1.2.1 s r1.2.2 w h hs
  generalize rdN s r1.2.1 r1.2.2 = r2 at *
  have l3 := rdB_le r2.2.2 l2
  have HB := fun (w : World) (h : Rd w p s r2.2.1 r2.2.2) => byte_any p r2.2.1 s r2.2.2 w h hs l2
  generalize rdB s r2.2.1 r2.2.2 = r3 at *
  have HV := fun (w : World) (h : Rd w p s r3.2.1 r3.2.2) => sized_any p r3.2.1 s r3.2.2 w h hs l3
  generalize rdS s r3.2.1 r3.2.2 = r4 at *
  rw [HE.out]
  replace HS := hd HS
  replace HN := hd HN
  replace HB := hd HB
  replace HV := hd HV
  have hlt := h.cells.2.2.2.2.2
  have hb0 : Below w.heap.size w (w.alloc (.cells #[.string ByteArray.empty, .int .i64 0, .int .i64 0, .string ByteArray.empty] 50)) := (Below.refl _ _).alloc (Nat.le_refl _) _
  have hx0 : (w.alloc (.cells #[.string ByteArray.empty, .int .i64 0, .int .i64 0, .string ByteArray.empty] 50)).heap[w.heap.size]? = some (.cells #[.string ByteArray.empty, .int .i64 0, .int .i64 0, .string ByteArray.empty] 50 (0, 0)) := World.heap_alloc_new _ _
  have h0 := h.below hb0
  go_enter Tryz.func118, Tryz.ntmps118
  go_wp2_with fail
  refine (HS.out _ h0).mono ?_
  rintro e w1 ⟨rfl, h1, ho1⟩
  go_wp2_with fail
  refine (HN.out _ h1).mono ?_
  rintro e w2 ⟨rfl, h2, ho2⟩
  go_wp2_with fail
  refine (HB.out _ h2).mono ?_
  rintro e w3 ⟨rfl, h3, ho3⟩
  go_wp2_with fail
  refine (HV.out _ h3).mono ?_
  rintro e w4 ⟨rfl, h4, ho4⟩
  have hoo := ((ho1.trans ho2).trans ho3).trans ho4
  have hx4 := (hoo.block w.heap.size (by simp) (by omega)).trans hx0
  have hO : Only p w w4 := (Only.of hb0).trans hoo
  have hlt4 := heap_lt hx4
  obtain ⟨⟨x0, x1, x2, x3⟩, z0, z1, z2, z3⟩ := four_cells hx4
  have hpne : p ≠ w.heap.size := by omega
  clear hoo ho1 ho2 ho3 ho4 h0 h1 h2 h3 hb0 hx0
  go_wp2_with fail
  refine bodyPost_ret (v := .agg #[.string r1.1, .int .i64 r2.1, .int .i64 r3.1, .string r4.1]) (by simp [results, Tryz.results118, go_sem, x0, x1, x2, x3]) rfl ⟨rfl, ?_, ?_⟩
  · unfold Rd at *
    rw [Below.heap_setCell _ _ _ _ (by simpa using hpne), Below.heap_setCell _ _ _ _ (by simpa using hpne), Below.heap_setCell _ _ _ _ (by simpa using hpne), Below.heap_setCell _ _ _ _ (by simpa using hpne)]
    exact h4
  · refine ⟨hO.os, hO.tape, hO.output, by have := hO.size; simp [World.setCell]; omega, fun k hk hn => ?_⟩
    have hne : k ≠ w.heap.size := by omega
    rw [Below.heap_setCell _ _ _ _ (by simpa using hne), Below.heap_setCell _ _ _ _ (by simpa using hne), Below.heap_setCell _ _ _ _ (by simpa using hne), Below.heap_setCell _ _ _ _ (by simpa using hne)]
    exact hO.block k hk hn

set_option maxRecDepth 100000 in
set_option maxHeartbeats 1000000 in
theorem done_any (p A : Nat) (s : ByteArray) (fl : Bool) (w : World) (h : Rd w p s A fl) (hs : s.size ≤ 1048576) :
    Calls Tryz.prog 120 #[.pointer (some ⟨p, 0, none⟩)] w fun e w' => e = .returned (.bool (!fl && decide (A = s.size))) ∧ Below w.heap.size w w' := by
  obtain ⟨c0, c1, c2, z1, z2, hlt⟩ := h.cells
  cases fl with
  | true =>
    go_enter Tryz.func120, Tryz.ntmps120
    go_wp2_with fail
    go_quiet (fail)
    go_wp2_with fail
    go_ret
    exact ⟨rfl, ⟨rfl, rfl, rfl, Nat.le_refl _, fun _ _ => rfl⟩⟩
  | false =>
    go_enter Tryz.func120, Tryz.ntmps120
    go_wp2_with fail
    go_quiet (fail)
    go_wp2_with fail
    go_ret
    refine ⟨?_, ⟨rfl, rfl, rfl, Nat.le_refl _, fun _ _ => rfl⟩⟩
    show Ending.returned (.bool ((A : Int) == s.size)) = _
    refine ret_b (Bool.eq_iff_iff.2 ?_)
    simp only [beq_iff_eq, Bool.not_false, Bool.true_and, decide_eq_true_eq]
    omega

/-- Entries as cells. -/
def cellsE (xs : List En) : List Value := xs.flatMap fun e => [.string e.ky, .int .i64 e.sq, .int .i64 e.kd, .string e.vl]
theorem cellsE_snoc (xs : List En) (e : En) : cellsE (xs ++ [e]) = cellsE xs ++ [.string e.ky, .int .i64 e.sq, .int .i64 e.kd, .string e.vl] := by simp [cellsE]
theorem cellsE_len (xs : List En) : (cellsE xs).length = xs.length * 4 := by
  induction xs with
  | nil => rfl
  | cons x r ih => simp [cellsE] at *; omega
theorem cellsE_at (xs : List En) (i : Nat) (hi : i < xs.length) : (cellsE xs)[i * 4]? = some (.string (xs.getD i en0).ky) ∧ (cellsE xs)[i * 4 + 1]? = some (.int .i64 (xs.getD i en0).sq) ∧ (cellsE xs)[i * 4 + 2]? = some (.int .i64 (xs.getD i en0).kd) ∧ (cellsE xs)[i * 4 + 3]? = some (.string (xs.getD i en0).vl) := by
  induction xs generalizing i with
  | nil => simp at hi
  | cons x r ih =>
    cases i with
    | zero => exact ⟨rfl, rfl, rfl, rfl⟩
    | succ i =>
      have h := ih i (by simpa using hi)
      have e : cellsE (x :: r) = [.string x.ky, .int .i64 x.sq, .int .i64 x.kd, .string x.vl] ++ cellsE r := rfl
      have sh : ∀ j, (cellsE (x :: r))[4 + j]? = (cellsE r)[j]? := fun j => by rw [e, List.getElem?_append_right (by simp)]; simp
      have g : (x :: r).getD (i + 1) en0 = r.getD i en0 := rfl
      rw [g]
      refine ⟨?_, ?_, ?_, ?_⟩
      · rw [show (i + 1) * 4 = 4 + i * 4 by omega, sh]; exact h.1
      · rw [show (i + 1) * 4 + 1 = 4 + (i * 4 + 1) by omega, sh]; exact h.2.1
      · rw [show (i + 1) * 4 + 2 = 4 + (i * 4 + 2) by omega, sh]; exact h.2.2.1
      · rw [show (i + 1) * 4 + 3 = 4 + (i * 4 + 3) by omega, sh]; exact h.2.2.2
/-- A row of entries that the call owns lies in memory. -/
theorem lieE_of_owns {w : World} {B n : Nat} {v : Value} {xs : List En} (h : w.ownsRow B 50 4 v n (cellsE xs)) :
    n = xs.length ∧ ∃ a cap, v = .slice a xs.length cap ∧ LieE w a xs ∧ (xs ≠ [] → ∃ g, a = some ⟨g, 0, none⟩ ∧ B ≤ g ∧ g < w.heap.size ∧ ∀ o, o < xs.length * 4 → (∃ u, w.cell? ⟨g, o, none⟩ = some u) ∧ w.frozen? ⟨g, o, none⟩ = false) := by
  obtain ⟨h1, h2⟩ := h
  have hn : n = xs.length := by rw [cellsE_len] at h1; omega
  refine ⟨hn, ?_⟩
  subst hn
  rcases h2 with ⟨rfl, h0⟩ | ⟨g, cap, cur, rfl, hg, hb, hl, hm, hsz, htk⟩
  · have hx : xs = [] := List.length_eq_zero_iff.1 h0
    exact ⟨none, 0, by rw [h0], .inl hx, fun h => absurd hx h⟩
  · have hcell : ∀ j, j < xs.length * 4 → cur[j]? = (cellsE xs)[j]? := fun j hj => by
      have e1 : (cur.toList.take (xs.length * 4))[j]? = (cellsE xs)[j]? := by rw [htk]
      rw [List.getElem?_take_of_lt hj] at e1
      simpa using e1
    refine ⟨some ⟨g, 0, none⟩, cap, rfl, .inr ⟨g, 0, rfl, heap_lt hb, fun i hi => ?_⟩, fun _ => ⟨g, rfl, hg, heap_lt hb, fun o ho => ?_⟩⟩
    · obtain ⟨a0, a1, a2, a3⟩ := cellsE_at xs i hi
      refine ⟨?_, ?_, ?_, ?_⟩
      · simp only [World.cell?, hb, Nat.zero_add]; rw [hcell _ (by omega)]; exact a0
      · simp only [World.cell?, hb, Nat.zero_add]; rw [hcell _ (by omega)]; exact a1
      · simp only [World.cell?, hb, Nat.zero_add]; rw [hcell _ (by omega)]; exact a2
      · simp only [World.cell?, hb, Nat.zero_add]; rw [hcell _ (by omega)]; exact a3
    · refine ⟨?_, by simp [World.frozen?, hb]⟩
      have hol : o < (cellsE xs).length := by rw [cellsE_len]; exact ho
      exact ⟨(cellsE xs)[o], by simp only [World.cell?, hb]; rw [hcell o ho]; exact List.getElem?_eq_getElem hol⟩
theorem ownsE_lit (w : World) (B : Nat) (hB : B ≤ w.heap.size) : (w.alloc (.cells #[] 50)).ownsRow B 50 4 (.slice (some ⟨w.heap.size, 0, none⟩) 0 0) 0 (cellsE []) :=
  ⟨rfl, .inr ⟨w.heap.size, 0, #[], rfl, hB, World.heap_alloc_new _ _, Nat.le_refl _, Nat.zero_le _, rfl, rfl⟩⟩

set_option maxRecDepth 100000 in
set_option maxHeartbeats 1000000 in
theorem piece_any (s : ByteArray) (A : Nat) (w : World) (hs : s.size ≤ 1048576) :
    Calls Tryz.prog 56 #[.string s, .int .i64 A] w fun e w' => e = .returned (match pc s A with | none => .tuple #[.string ⟨#[]⟩, .int .i64 0, .bool false] | some (t, B) => .tuple #[.string t, .int .i64 (B : Nat), .bool true]) ∧ Below w.heap.size w w' := by
  have HS : Hid (s.size ≤ maxLen) := by show _ ≤ _; unfold maxLen; omega
  cases hg : gv s (A : Int) with
  | none =>
    have HG : Hid (gvV (A : Int) (gv s (A : Int)) = .tuple #[.int .i64 0, .int .i64 0, .bool false]) := by show _ = _; rw [hg]; rfl
    have e : pc s A = none := by simp only [pc, hg]
    rw [e]
    clear hg e
    go_enter Tryz.func56, Tryz.ntmps56
    go_wp2_with fail
    refine (specGet_any s (A : Int) _ HS.out).mono ?_
    rintro e w1 ⟨rfl, hb1⟩
    rw [HG.out]
    go_wp2_with fail
    go_ret3
    exact ⟨rfl, hb1⟩
  | some q =>
    obtain ⟨n, c⟩ := q
    obtain ⟨-, h2, h3, -⟩ := gv_some hg
    have HG : Hid (gvV (A : Int) (gv s (A : Int)) = .tuple #[.int .i64 n, .int .i64 ((A : Int) + c), .bool true]) := by show _ = _; rw [hg]; rfl
    by_cases hn : n ≤ s.size - (A + c)
    · have e : pc s A = some (cut s (A + c) (A + c + n), A + c + n) := by simp only [pc, hg]; rw [if_pos hn]
      rw [e]
      clear hg e
      have b1 : (0 : Int) ≤ (A : Int) + c := by omega
      have b2 : (A : Int) + c ≤ (A : Int) + c + n := by omega
      have b3 : (A : Int) + c + n ≤ s.size := by omega
      have b4 : ¬ (s.size : Int) - ((A : Int) + c) < n := by omega
      go_enter Tryz.func56, Tryz.ntmps56
      go_wp2_with fail
      refine (specGet_any s (A : Int) _ HS.out).mono ?_
      rintro e w1 ⟨rfl, hb1⟩
      rw [HG.out]
      go_wp2_with fail
      go_ret3
      refine ⟨?_, hb1⟩
      show Ending.returned (.tuple #[.string (s.extract (A + c) (A + c + n)), .int .i64 ((A : Int) + c + n), .bool true]) = _
      rw [show (A : Int) + c + n = ((A + c + n : Nat) : Int) by omega]
      rfl
    · have e : pc s A = none := by simp only [pc, hg]; rw [if_neg hn]
      rw [e]
      clear hg e
      have b4 : (s.size : Int) - ((A : Int) + c) < n := by omega
      go_enter Tryz.func56, Tryz.ntmps56
      go_wp2_with fail
      refine (specGet_any s (A : Int) _ HS.out).mono ?_
      rintro e w1 ⟨rfl, hb1⟩
      rw [HG.out]
      go_wp2_with fail
      go_ret3
      exact ⟨rfl, hb1⟩
end Go.Proofs.YtgmfjninimebmaaGreatDoor
namespace Go.Proofs.YtgmfjninimebmaaGreatDoor
open Go.RowKit Go.Maps
set_option linter.unusedVariables false
set_option linter.unusedSimpArgs false

/-- Block g has room for n entries, none of it frozen; the first k of the entries xs stand in it. -/
def RowE (w : World) (g n : Nat) (xs : List En) (k : Nat) : Prop :=
  ∃ cs : Array Value, w.heap[g]? = some (.cells cs 50 (0, 0)) ∧ n * 4 ≤ cs.size ∧
    ∀ i, i < k → cs[i * 4]? = some (.string (xs.getD i en0).ky) ∧ cs[i * 4 + 1]? = some (.int .i64 (xs.getD i en0).sq) ∧ cs[i * 4 + 2]? = some (.int .i64 (xs.getD i en0).kd) ∧ cs[i * 4 + 3]? = some (.string (xs.getD i en0).vl)
/-- A slice that the call made and that holds the entries xs. -/
def ResE (w : World) (base : Nat) (a : Option Addr) (xs : List En) : Prop := xs = [] ∨ ∃ g, a = some ⟨g, 0, none⟩ ∧ base ≤ g ∧ RowE w g xs.length xs xs.length
theorem RowE.block {w w' : World} {g n k : Nat} {xs : List En} (h : RowE w g n xs k) (hb : w'.heap[g]? = w.heap[g]?) : RowE w' g n xs k := by
  obtain ⟨cs, h1, h2, h3⟩ := h
  exact ⟨cs, hb.trans h1, h2, h3⟩
theorem RowE.lt {w : World} {g n k : Nat} {xs : List En} (h : RowE w g n xs k) : g < w.heap.size := by
  obtain ⟨cs, h1, _⟩ := h
  exact heap_lt h1
theorem ResE.kept {w w' : World} {base : Nat} {a : Option Addr} {xs : List En} (h : ResE w base a xs) (hb : ∀ k, base ≤ k → k < w.heap.size → w'.heap[k]? = w.heap[k]?) : ResE w' base a xs := by
  rcases h with h | ⟨g, rfl, hg, hr⟩
  · exact .inl h
  · exact .inr ⟨g, rfl, hg, hr.block (hb g hg hr.lt)⟩
theorem ResE.below {w w' : World} {base : Nat} {a : Option Addr} {xs : List En} (h : ResE w base a xs) (hb : Below w.heap.size w w') : ResE w' base a xs := h.kept (fun k _ hk => hb.block k hk)
theorem ResE.lie {w : World} {base : Nat} {a : Option Addr} {xs : List En} (h : ResE w base a xs) : LieE w a xs := by
  rcases h with h | ⟨g, rfl, hg, hr⟩
  · exact .inl h
  · have hlt := hr.lt
    obtain ⟨cs, h1, h2, h3⟩ := hr
    refine .inr ⟨g, 0, rfl, hlt, fun i hi => ?_⟩
    obtain ⟨a0, a1, a2, a3⟩ := h3 i hi
    exact ⟨by simpa [World.cell?, h1] using a0, by simpa [World.cell?, h1] using a1, by simpa [World.cell?, h1] using a2, by simpa [World.cell?, h1] using a3⟩
theorem resE_of_owns {w : World} {B n : Nat} {v : Value} {xs : List En} (h : w.ownsRow B 50 4 v n (cellsE xs)) :
    n = xs.length ∧ ∃ a cap, v = .slice a xs.length cap ∧ ResE w B a xs := by
  obtain ⟨h1, h2⟩ := h
  have hn : n = xs.length := by rw [cellsE_len] at h1; omega
  refine ⟨hn, ?_⟩
  subst hn
  rcases h2 with ⟨rfl, h0⟩ | ⟨g, cap, cur, rfl, hg, hb, hl, hm, hsz, htk⟩
  · exact ⟨none, 0, by rw [h0], .inl (List.length_eq_zero_iff.1 h0)⟩
  · have hcell : ∀ j, j < xs.length * 4 → cur[j]? = (cellsE xs)[j]? := fun j hj => by
      have e1 : (cur.toList.take (xs.length * 4))[j]? = (cellsE xs)[j]? := by rw [htk]
      rw [List.getElem?_take_of_lt hj] at e1
      simpa using e1
    refine ⟨some ⟨g, 0, none⟩, cap, rfl, .inr ⟨g, rfl, hg, cur, hb, by rw [hsz]; omega, fun i hi => ?_⟩⟩
    obtain ⟨a0, a1, a2, a3⟩ := cellsE_at xs i hi
    exact ⟨by rw [hcell _ (by omega)]; exact a0, by rw [hcell _ (by omega)]; exact a1, by rw [hcell _ (by omega)]; exact a2, by rw [hcell _ (by omega)]; exact a3⟩

theorem pe_no {s : ByteArray} {A B q c : Nat} {t : ByteArray} (h1 : pc s A = some (t, B)) (h2 : gv s (B : Int) = some (q, c)) (h3 : B + c < s.size) (h4 : pc s (B + c + 1) = none) : pe s A = none := by
  simp only [pe, h1, h2, h4]; rw [dif_pos h3]
theorem pe_yes {s : ByteArray} {A B q c E : Nat} {t v : ByteArray} (h1 : pc s A = some (t, B)) (h2 : gv s (B : Int) = some (q, c)) (h3 : B + c < s.size) (h4 : pc s (B + c + 1) = some (v, E)) : pe s A = some (⟨t, q, s[B + c].toNat, v⟩, E) := by
  simp only [pe, h1, h2, h4]; rw [dif_pos h3]
theorem cell_first4 (w : World) (x y z u : Value) (t : TypeId) : ∀ j v, [x, y, z, u][j]? = some v → (w.alloc (.cells #[x, y, z, u] t)).cell? ((⟨w.heap.size, 0, none⟩ : Addr).add j) = some v := by
  intro j v hj
  rw [Go.WideShapes.add_plain]
  have hb : (w.alloc (.cells #[x, y, z, u] t)).heap[w.heap.size]? = some (.cells #[x, y, z, u] t (0, 0)) := World.heap_alloc_new _ _
  simp only [World.cell?, hb]
  match j, hj with
  | 0, hj => simpa using hj
  | 1, hj => simpa using hj
  | 2, hj => simpa using hj
  | 3, hj => simpa using hj

/-- The entries that are given. -/
def decL (s : ByteArray) : List En := (dec s).getD []
theorem decL_len (s : ByteArray) : (decL s).length ≤ 1000 := by
  unfold decL dec
  cases hg : gv s 0 with
  | none => simp
  | some q =>
    obtain ⟨n, c⟩ := q
    obtain ⟨g1, g2, g3, g4⟩ := gv_some (A := 0) hg
    dsimp only
    split
    · rename_i hn
      split
      · simp
      · rename_i xs E hp
        obtain ⟨-, -, -, p4, -⟩ := ps_some (by omega) hp
        split
        · simp; omega
        · simp
    · simp
end Go.Proofs.YtgmfjninimebmaaGreatDoor
namespace Go.Proofs.YtgmfjninimebmaaGreatDoor
open Go.RowKit Go.Maps
set_option linter.unusedVariables false
set_option linter.unusedSimpArgs false

set_option maxRecDepth 100000 in
set_option maxHeartbeats 8000000 in
theorem specDec_any (s : ByteArray) (w : World) (hs : s.size ≤ 1048576) :
    Calls Tryz.prog 36 #[.string s] w fun e w' => ∃ a cap, e = .returned (.tuple #[.slice a (decL s).length cap, .bool (dec s).isSome]) ∧ ResE w' w.heap.size a (decL s) ∧ Below w.heap.size w w' := by
  have HS : Hid (s.size ≤ maxLen) := by show _ ≤ _; unfold maxLen; omega
  obtain ⟨i0, hi, hz0, hz1, hz2⟩ := info_parts iEntry_info
  generalize hD : dec s = D
  have HD : Hid (dec s = D) := hD
  have HL : Hid (decL s = D.getD []) := by show _ = _; rw [decL, hD]
  clear hD
  generalize decL s = dl at *
  have hb0 : Below w.heap.size w (w.alloc (.cells #[] 50)) := (Below.refl _ _).alloc (Nat.le_refl _) _
  cases hg : gv s 0 with
  | none =>
    have hDn : D = none := by rw [← HD.out]; exact dec_none0 hg
    subst hDn
    have hdl : dl = [] := HL.out
    subst hdl
    have HG : Hid (gvV 0 (gv s 0) = .tuple #[.int .i64 0, .int .i64 0, .bool false]) := by show _ = _; rw [hg]; rfl
    clear hg
    go_enter Tryz.func36, Tryz.ntmps36
    go_wp2_with fail
    refine (specGet_any s 0 _ HS.out).mono ?_
    rintro e w1 ⟨rfl, hb1⟩
    rw [HG.out]
    go_wp2_with fail
    go_ret2
    exact ⟨_, _, rfl, .inl rfl, hb0.trans (hb1.mono hb0.size)⟩
  | some q =>
    obtain ⟨n, c⟩ := q
    obtain ⟨-, g2, g3, -⟩ := gv_some (A := 0) hg
    have HG : Hid (gvV 0 (gv s 0) = .tuple #[.int .i64 n, .int .i64 (c : Int), .bool true]) := by show _ = _; rw [hg]; simp [gvV]
    by_cases hn : n ≤ 1000
    · have hn' : ¬ (1000 : Int) < n := by omega
      have HGS : Hid (gv s 0 = some (n, c)) := hg
      clear hg
      go_enter Tryz.func36, Tryz.ntmps36
      go_wp2_with fail
      refine (specGet_any s 0 _ HS.out).mono ?_
      rintro e w1 ⟨rfl, hb1⟩
      rw [HG.out]
      have hbw1 := hb0.trans (hb1.mono hb0.size)
      have hB1 := hbw1.size
      have hl1 := ownsE_lit w1 w.heap.size hB1
      have hb2 : Below w.heap.size w (w1.alloc (.cells #[] 50)) := hbw1.alloc hB1 _
      clear hb0 hb1 hbw1
      go_wp2_with fail
      go_loopw [6, 8, 9] (fun x v y wr => ∃ (k A : Nat) (xs : List En), y = .int .i64 k ∧ x = .int .i64 A ∧ k ≤ n ∧ ps s k c = some (xs, A) ∧ wr.ownsRow w.heap.size 50 4 v k (cellsE xs) ∧ Below w.heap.size w wr) (fun _ _ y _ => n - (intOf y).toNat)
      case atStart => exact ⟨0, c, [], rfl, rfl, by omega, rfl, hl1, hb2⟩
      case round =>
        obtain ⟨k, A, xs, rfl, rfl, hk, hps, hown, hb⟩ := hrel
        obtain ⟨-, -, hAs, hxl, hxf⟩ := ps_some (by omega) hps
        have hbs := hb.size
        by_cases hlt : k < n
        · have hlt' : (k : Int) < n := by omega
          have HN : Hid (pe s A = none → D = none) := fun h => by rw [← HD.out]; exact dec_none HGS.out (k := k + 1) (by simp only [ps, hps, h]) (by omega)
          have hx0 : (wr.alloc (.cells #[.string ByteArray.empty, .int .i64 0, .int .i64 0, .string ByteArray.empty] 50)).heap[wr.heap.size]? = some (.cells #[.string ByteArray.empty, .int .i64 0, .int .i64 0, .string ByteArray.empty] 50 (0, 0)) := World.heap_alloc_new _ _
          have hba : Below wr.heap.size wr (wr.alloc (.cells #[.string ByteArray.empty, .int .i64 0, .int .i64 0, .string ByteArray.empty] 50)) := (Below.refl _ _).alloc (Nat.le_refl _) _
          have ret : ∀ {x : ByteArray}, D = none → dl = [] := fun {x} h => by rw [HL.out, h]; rfl
          go_wp2_with fail
          refine (piece_any s A _ hs).mono ?_
          rintro e w3 ⟨rfl, hb3⟩
          have hbr3 := hba.trans (hb3.mono hba.size)
          have hx3 := (hb3.block wr.heap.size (by simp)).trans hx0
          cases hpc : pc s A with
          | none =>
            have hDn := HN.out (by simp only [pe, hpc])
            have hdl := ret (x := s) hDn
            subst hDn hdl
            dsimp only
            go_wp2_with fail
            go_ret2
            first | exact ⟨_, _, rfl, .inl rfl, hb.trans (hbr3.mono hbs)⟩ | exact ⟨_, ⟨_, rfl⟩, .inl rfl, hb.trans (hbr3.mono hbs)⟩
          | some qq =>
            obtain ⟨t, B⟩ := qq
            obtain ⟨-, hAB, hBs, hts⟩ := pc_some hpc
            dsimp only
            clear hx0 hba hb3
            go_wp2_with fail
            refine (specGet_any s (B : Int) _ HS.out).mono ?_
            rintro e w4 ⟨rfl, hb4⟩
            have hbr4 := hbr3.trans (hb4.mono hbr3.size)
            have hx4 := (hb4.block wr.heap.size (heap_lt hx3)).trans hx3
            cases hgv : gv s (B : Int) with
            | none =>
              have hDn := HN.out (by simp only [pe, hpc, hgv])
              have hdl := ret (x := s) hDn
              subst hDn hdl
              simp only [gvV]
              go_wp2_with fail
              go_ret2
              first | exact ⟨_, _, rfl, .inl rfl, hb.trans (hbr4.mono hbs)⟩ | exact ⟨_, ⟨_, rfl⟩, .inl rfl, hb.trans (hbr4.mono hbs)⟩
            | some qq =>
              obtain ⟨q, c2⟩ := qq
              obtain ⟨-, q2, q3, -⟩ := gv_some hgv
              simp only [gvV]
              clear hx3 hbr3 hb4
              by_cases hEnd : B + c2 < s.size
              · have hE1 : (B : Int) + c2 < s.size := by omega
                have hE0 : (0 : Int) ≤ (B : Int) + c2 := by omega
                have HEc : Hid (((B : Int) + c2 + 1) = ((B + c2 + 1 : Nat) : Int)) := by show _ = _; omega
                obtain ⟨⟨x0, x1, x2, x3⟩, z0, z1, z2, z3⟩ := four_cells hx4
                have hbyt := s[B + c2].toNat_lt
                have hx5 : (w4.setCell ⟨wr.heap.size, 2, none⟩ (.int .i64 (s[B + c2].toNat : Int))).heap[wr.heap.size]? = some (.cells #[.string ByteArray.empty, .int .i64 0, .int .i64 (s[B + c2].toNat : Int), .string ByteArray.empty] 50 (0, 0)) := by rw [heap_setCell_same _ _ _ _ _ _ hx4]; simp
                have hbr5 : Below wr.heap.size wr (w4.setCell ⟨wr.heap.size, 2, none⟩ (.int .i64 (s[B + c2].toNat : Int))) := hbr4.setCell (Nat.le_refl _) _
                have hwx : wrap64 (s[B + c2].toNat : Int) = s[B + c2].toNat := by unfold wrap64; omega
                have HPN : Hid (pc s (B + c2 + 1) = none → pe s A = none) := fun h => pe_no hpc hgv hEnd h
                have HPY : Hid (∀ v E, pc s (B + c2 + 1) = some (v, E) → pe s A = some (⟨t, q, s[B + c2].toNat, v⟩, E)) := fun v E h => pe_yes hpc hgv hEnd h
                clear hpc hgv
                go_wp2_with fail
                rw [HEc.out]
                refine (piece_any s (B + c2 + 1) _ hs).mono ?_
                rintro e w5 ⟨rfl, hb5⟩
                have hbr6 := hbr5.trans (hb5.mono hbr5.size)
                have hx6 := (hb5.block wr.heap.size (heap_lt hx5)).trans hx5
                clear hx5 hbr5 hb5 x0 x1 x2 x3 z0 z1 z2 z3 hx4 hbr4
                cases hpc2 : pc s (B + c2 + 1) with
                | none =>
                  have hDn := HN.out (HPN.out hpc2)
                  have hdl := ret (x := s) hDn
                  subst hDn hdl
                  dsimp only
                  go_wp2_with fail
                  go_ret2
                  first | exact ⟨_, _, rfl, .inl rfl, hb.trans (hbr6.mono hbs)⟩ | exact ⟨_, ⟨_, rfl⟩, .inl rfl, hb.trans (hbr6.mono hbs)⟩
                | some qv =>
                  obtain ⟨v, E⟩ := qv
                  have hP := HPY.out v E hpc2
                  have HPS : Hid (ps s (k + 1) c = some (xs ++ [⟨t, q, s[B + c2].toNat, v⟩], E)) := by show _ = _; simp only [ps, hps, hP]
                  have hbr7 : Below wr.heap.size wr (((w5.setCell ⟨wr.heap.size, 0, none⟩ (.string t)).setCell ⟨wr.heap.size, 1, none⟩ (.int .i64 (q : Int))).setCell ⟨wr.heap.size, 3, none⟩ (.string v)) := ((hbr6.setCell (Nat.le_refl _) _).setCell (Nat.le_refl _) _).setCell (Nat.le_refl _) _
                  have HO7 : Hid (World.ownsRow (((w5.setCell ⟨wr.heap.size, 0, none⟩ (.string t)).setCell ⟨wr.heap.size, 1, none⟩ (.int .i64 (q : Int))).setCell ⟨wr.heap.size, 3, none⟩ (.string v)) w.heap.size 50 4 _ k (cellsE xs)) := owns_below hown hbr7
                  have hwb : w.heap.size ≤ w5.heap.size := Nat.le_trans hbs (by simpa [World.setCell] using hbr7.size)
                  have hsz7 : (((w5.setCell ⟨wr.heap.size, 0, none⟩ (.string t)).setCell ⟨wr.heap.size, 1, none⟩ (.int .i64 (q : Int))).setCell ⟨wr.heap.size, 3, none⟩ (.string v)).heap.size = w5.heap.size := by simp
                  have HC : Hid (∀ j u, [Value.string t, .int .i64 (q : Int), .int .i64 (s[B + c2].toNat : Int), .string v][j]? = some u → ((((w5.setCell ⟨wr.heap.size, 0, none⟩ (.string t)).setCell ⟨wr.heap.size, 1, none⟩ (.int .i64 (q : Int))).setCell ⟨wr.heap.size, 3, none⟩ (.string v)).alloc (.cells #[.string t, .int .i64 (q : Int), .int .i64 (s[B + c2].toNat : Int), .string v] 50)).cell? ((⟨w5.heap.size, 0, none⟩ : Addr).add j) = some u) := by
                    have h := cell_first4 (((w5.setCell ⟨wr.heap.size, 0, none⟩ (.string t)).setCell ⟨wr.heap.size, 1, none⟩ (.int .i64 (q : Int))).setCell ⟨wr.heap.size, 3, none⟩ (.string v)) (.string t) (.int .i64 (q : Int)) (.int .i64 (s[B + c2].toNat : Int)) (.string v) 50
                    rw [hsz7] at h
                    exact h
                  have HBs : Hid (w.heap.size ≤ ((((w5.setCell ⟨wr.heap.size, 0, none⟩ (.string t)).setCell ⟨wr.heap.size, 1, none⟩ (.int .i64 (q : Int))).setCell ⟨wr.heap.size, 3, none⟩ (.string v)).alloc (.cells #[.string t, .int .i64 (q : Int), .int .i64 (s[B + c2].toNat : Int), .string v] 50)).heap.size) := by show _ ≤ _; simp; omega
                  clear hP hpc2 ret HN HPN HPY hsz7
                  obtain ⟨⟨x0, x1, x2, x3⟩, z0, z1, z2, z3⟩ := four_cells hx6
                  clear hx6
                  dsimp only
                  go_wp2_with (at_builtin; refine wpList_append_own _ rfl _ _ 26 rfl w.heap.size 50 i0 _ 4 48 Tryz.underlying26 hi hz0 hz1 hz2 rfl (by decide) _ _ _ rfl (HO7.out.alloc _) ⟨w5.heap.size, 0, none⟩ 1 1 [.string t, .int .i64 (q : Int), .int .i64 (s[B + c2].toNat : Int), .string v] rfl rfl HC.out (fun x hx => by simp at hx; rcases hx with rfl | rfl | rfl | rfl <;> rfl) (by unfold maxLen; omega) (by omega) HBs.out ?_; intro v' w8 hown8 hgrow hnil)
                  refine ⟨⟨k + 1, E, xs ++ [⟨t, q, s[B + c2].toNat, v⟩], by simp, by simp, by omega, HPS.out, ?_, ?_⟩, by simp only [intOf]; omega⟩
                  · rw [cellsE_snoc]; exact hown8
                  · exact ((hb.trans (hbr7.mono hbs)).alloc (by simp; omega) _).grown hgrow HBs.out (owns_base hown)
              · have hE1 : ¬ (B : Int) + c2 < s.size := by omega
                have hDn := HN.out (by simp only [pe, hpc, hgv]; rw [dif_neg hEnd])
                have hdl := ret (x := s) hDn
                subst hDn hdl
                go_wp2_with fail
                go_ret2
                first | exact ⟨_, _, rfl, .inl rfl, hb.trans (hbr4.mono hbs)⟩ | exact ⟨_, ⟨_, rfl⟩, .inl rfl, hb.trans (hbr4.mono hbs)⟩
        · have hkn : n = k := by omega
          subst hkn
          subst hxl
          have hlt' : ¬ (xs.length : Int) < xs.length := by omega
          obtain ⟨-, a, cap, rfl, hres⟩ := resE_of_owns hown
          have HDE : Hid (D = if encT xs = s then some xs else none) := by show _ = _; rw [← HD.out]; simp only [dec, HGS.out, if_pos hn, hps]
          have HF : Hid (FitsE xs) := fun e he => by have := hxf e he; unfold maxLen; omega
          go_wp2_with fail
          refine (specEnc_any a cap xs _ hres.lie HF.out (by omega)).mono ?_
          rintro e w3 ⟨rfl, hb3⟩
          have hres3 := hres.below hb3
          have hbw3 := hb.trans (hb3.mono hbs)
          by_cases hE : encT xs = s
          · have hDs : D = some xs := by rw [HDE.out, if_pos hE]
            have hdl : dl = xs := by rw [HL.out, hDs]; rfl
            subst hDs hdl
            have hcmp : ((encT dl).toList == s.toList) = true := by rw [hE]; simp
            go_wp2_with fail
            go_ret2
            first | exact ⟨_, _, rfl, hres3, hbw3⟩ | exact ⟨_, ⟨_, rfl⟩, hres3, hbw3⟩
          · have hDs : D = none := by rw [HDE.out, if_neg hE]
            have hdl : dl = [] := by rw [HL.out, hDs]; rfl
            subst hDs hdl
            have hcmp : ((encT xs).toList == s.toList) = false := by
              cases h : ((encT xs).toList == s.toList) with
              | false => rfl
              | true => exact absurd (toList_eq' h) hE
            go_wp2_with fail
            go_ret2
            first | exact ⟨_, _, rfl, .inl rfl, hbw3⟩ | exact ⟨_, ⟨_, rfl⟩, .inl rfl, hbw3⟩
    · have hDn : D = none := by rw [← HD.out]; exact dec_long hg hn
      subst hDn
      have hdl : dl = [] := HL.out
      subst hdl
      have hn' : (1000 : Int) < n := by omega
      clear hg
      go_enter Tryz.func36, Tryz.ntmps36
      go_wp2_with fail
      refine (specGet_any s 0 _ HS.out).mono ?_
      rintro e w1 ⟨rfl, hb1⟩
      rw [HG.out]
      go_wp2_with fail
      go_ret2
      exact ⟨_, _, rfl, .inl rfl, hb0.trans (hb1.mono hb0.size)⟩
end Go.Proofs.YtgmfjninimebmaaGreatDoor
