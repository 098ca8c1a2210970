
import Derived.Test.YtnlmebpajjiomabDecM
namespace Go.Proofs.Ytnlmebpajjiomab
open Go.RowKit Go.Maps
set_option linter.unusedVariables false
set_option linter.unusedSimpArgs false

theorem hd {p : Prop} (h : p) : Hid p := h
/-- Only block p has changed. -/
structure Only (p : Nat) (w w' : World) : Prop where
  os : w'.os = w.os
  tape : w'.tape = w.tape
  output : w'.output = w.output
  size : w.heap.size ≤ w'.heap.size
  block : ∀ k, k < w.heap.size → k ≠ p → w'.heap[k]? = w.heap[k]?
theorem Only.refl (p : Nat) (w : World) : Only p w w := ⟨rfl, rfl, rfl, Nat.le_refl _, fun _ _ _ => rfl⟩
theorem Only.trans {p : Nat} {a b c : World} (h : Only p a b) (k : Only p b c) : Only p a c :=
  ⟨k.os.trans h.os, k.tape.trans h.tape, k.output.trans h.output, Nat.le_trans h.size k.size, fun i hi hn => (k.block i (Nat.lt_of_lt_of_le hi h.size) hn).trans (h.block i hi hn)⟩
theorem Only.of {p : Nat} {w w' : World} (h : Below w.heap.size w w') : Only p w w' := ⟨h.os, h.tape, h.output, h.size, fun k hk _ => h.block k hk⟩
theorem Only.set {p : Nat} (w : World) (o : Nat) (v : Value) : Only p w (w.setCell ⟨p, o, none⟩ v) :=
  ⟨rfl, rfl, rfl, by simp [World.setCell], fun k _ hn => Below.heap_setCell _ _ _ _ (by simpa using hn)⟩
theorem Only.below {p B : Nat} {w w' : World} (h : Only p w w') (hp : B ≤ p) (hB : B ≤ w.heap.size) : Below B w w' :=
  ⟨h.os, h.tape, h.output, h.size, fun k hk => h.block k (by omega) (by omega)⟩

/-- A reader at block p: its text, its place, whether it has met a fault. -/
def Rd (w : World) (p : Nat) (s : ByteArray) (A : Nat) (fl : Bool) : Prop := w.heap[p]? = some (.cells #[.string s, .int .i64 A, .bool fl] 64 (0, 0))
theorem Rd.cells {w : World} {p : Nat} {s : ByteArray} {A : Nat} {fl : Bool} (h : Rd w p s A fl) :
    w.cell? ⟨p, 0, none⟩ = some (.string s) ∧ w.cell? ⟨p, 1, none⟩ = some (.int .i64 A) ∧ w.cell? ⟨p, 2, none⟩ = some (.bool fl) ∧ w.frozen? ⟨p, 1, none⟩ = false ∧ w.frozen? ⟨p, 2, none⟩ = false ∧ p < w.heap.size := by
  unfold Rd at h
  refine ⟨?_, ?_, ?_, ?_, ?_, ?_⟩
  · simp [World.cell?, h]
  · simp [World.cell?, h]
  · simp [World.cell?, h]
  · simp [World.frozen?, h]
  · simp [World.frozen?, h]
  · by_cases hlt : p < w.heap.size
    · exact hlt
    · rw [Array.getElem?_eq_none (by omega)] at h; cases h
theorem Rd.below {w w' : World} {p : Nat} {s : ByteArray} {A : Nat} {fl : Bool} (h : Rd w p s A fl) (hb : Below w.heap.size w w') : Rd w' p s A fl := (hb.block p h.cells.2.2.2.2.2).trans h
theorem Rd.move {w : World} {p : Nat} {s : ByteArray} {A B : Nat} {fl : Bool} (h : Rd w p s A fl) : Rd (w.setCell ⟨p, 1, none⟩ (.int .i64 B)) p s B fl := by
  unfold Rd at *
  rw [heap_setCell_same _ _ _ _ _ _ h]
  simp
theorem Rd.fault {w : World} {p : Nat} {s : ByteArray} {A : Nat} {fl : Bool} (h : Rd w p s A fl) : Rd (w.setCell ⟨p, 2, none⟩ (.bool true)) p s A true := by
  unfold Rd at *
  rw [heap_setCell_same _ _ _ _ _ _ h]
  simp

/-- Reading a number: the number, the place, whether there was a fault. -/
def rdN (s : ByteArray) (A : Nat) (fl : Bool) : Nat × Nat × Bool := match gv s (A : Int) with
  | none => (0, A, true)
  | some (n, c) => (n, A + c, fl)
/-- Taking n bytes. -/
def rdT (s : ByteArray) (n A : Nat) (fl : Bool) : ByteArray × Nat × Bool := if n ≤ s.size - A then (cut s A (A + n), A + n, fl) else (⟨#[]⟩, A, true)

set_option maxRecDepth 100000 in
set_option maxHeartbeats 1000000 in
theorem number_any (p A : Nat) (s : ByteArray) (fl : Bool) (w : World) (h : Rd w p s A fl) (hs : s.size ≤ 1048576) :
    Calls Try.prog 57 #[.pointer (some ⟨p, 0, none⟩)] w fun e w' => e = .returned (.int .i64 (rdN s A fl).1) ∧ Rd w' p s (rdN s A fl).2.1 (rdN s A fl).2.2 ∧ Only p w w' := by
  obtain ⟨c0, c1, c2, z1, z2, hlt⟩ := h.cells
  have HS : Hid (s.size ≤ maxLen) := by show _ ≤ _; unfold maxLen; omega
  cases hg : gv s (A : Int) with
  | none =>
    have HG : Hid (gvV (A : Int) (gv s (A : Int)) = .tuple #[.int .i64 0, .int .i64 0, .bool false]) := by show _ = _; rw [hg]; rfl
    have e : rdN s A fl = (0, A, true) := by simp only [rdN, hg]
    rw [e]
    go_enter Try.func57, Try.ntmps57
    go_wp2_with fail
    go_region_held3 (fun w' => w'.cell? ⟨p, 0, none⟩ = some (.string s) ∧ w'.cell? ⟨p, 1, none⟩ = some (.int .i64 (A : Int))) (simp [go_sem, *])
      (first | (go_at_call 77; refine (implGet_any s (A : Int) _ HS.out).mono ?_; rintro e w1 ⟨rfl, hb1⟩; rw [HG.out]; have k0 := (hb1.cell (p := ⟨p, 0, none⟩) hlt).trans c0; have k1 := (hb1.cell (p := ⟨p, 1, none⟩) hlt).trans c1; have k2 := (hb1.cell (p := ⟨p, 2, none⟩) hlt).trans c2; have y2 := (hb1.frozen (p := ⟨p, 2, none⟩) hlt).trans z2; have HB1 : Hid (Below w.heap.size w w1) := (Below.refl _ w).drew.trans hb1; have HR1 : Hid (Rd w1 p s A fl) := (h.below (Below.refl _ w).drew).below hb1))
    all_goals go_wp2_with fail
    all_goals go_ret
    all_goals exact ⟨rfl, HR1.out.fault, (Only.of HB1.out).trans (Only.set _ _ _)⟩
  | some q =>
    obtain ⟨n, c⟩ := q
    have HG : Hid (gvV (A : Int) (gv s (A : Int)) = .tuple #[.int .i64 n, .int .i64 ((A : Int) + c), .bool true]) := by show _ = _; rw [hg]; rfl
    have e : rdN s A fl = (n, A + c, fl) := by simp only [rdN, hg]
    rw [e]
    go_enter Try.func57, Try.ntmps57
    go_wp2_with fail
    go_region_held3 (fun w' => w'.cell? ⟨p, 0, none⟩ = some (.string s) ∧ w'.cell? ⟨p, 1, none⟩ = some (.int .i64 (A : Int))) (simp [go_sem, *])
      (first | (go_at_call 77; refine (implGet_any s (A : Int) _ HS.out).mono ?_; rintro e w1 ⟨rfl, hb1⟩; rw [HG.out]; have k0 := (hb1.cell (p := ⟨p, 0, none⟩) hlt).trans c0; have k1 := (hb1.cell (p := ⟨p, 1, none⟩) hlt).trans c1; have y1 := (hb1.frozen (p := ⟨p, 1, none⟩) hlt).trans z1; have HB1 : Hid (Below w.heap.size w w1) := (Below.refl _ w).drew.trans hb1; have HR1 : Hid (Rd w1 p s A fl) := (h.below (Below.refl _ w).drew).below hb1))
    all_goals go_wp2_with fail
    all_goals go_ret
    all_goals exact ⟨rfl, HR1.out.move (B := A + c), (Only.of HB1.out).trans (Only.set _ _ _)⟩

set_option maxRecDepth 100000 in
set_option maxHeartbeats 1000000 in
theorem take_any (p A n : Nat) (s : ByteArray) (fl : Bool) (w : World) (h : Rd w p s A fl) (hs : s.size ≤ 1048576) (hA : A ≤ s.size) (hn : n ≤ 72057594037927935) :
    Calls Try.prog 78 #[.pointer (some ⟨p, 0, none⟩), .int .i64 n] w fun e w' => e = .returned (.string (rdT s n A fl).1) ∧ Rd w' p s (rdT s n A fl).2.1 (rdT s n A fl).2.2 ∧ Only p w w' := by
  obtain ⟨c0, c1, c2, z1, z2, hlt⟩ := h.cells
  have hwr : IntKind.i64.wrap ((s.size : Int) - A) = (s.size : Int) - A := by rw [IntKind.wrap_i64]; omega
  by_cases hle : n ≤ s.size - A
  · have e : rdT s n A fl = (cut s A (A + n), A + n, fl) := by simp only [rdT, if_pos hle]
    rw [e]
    have h1 : ¬ (s.size : Int) - A < n := by omega
    go_enter Try.func78, Try.ntmps78
    go_wp2_with fail
    go_quiet (fail)
    go_wp2_with fail
    have hR2 : Rd ((w.drewN nq).setCell ⟨p, 1, none⟩ (.int .i64 ((A : Int) + n))) p s (A + n) fl := by
      have := Rd.move (w := w.drewN nq) (B := A + n) h
      rw [Int.natCast_add] at this
      exact this
    have hO2 : Only p w ((w.drewN nq).setCell ⟨p, 1, none⟩ (.int .i64 ((A : Int) + n))) := (⟨rfl, rfl, rfl, Nat.le_refl _, fun _ _ _ => rfl⟩ : Only p w (w.drewN nq)).trans (Only.set _ _ _)
    generalize (w.drewN nq).setCell ⟨p, 1, none⟩ (.int .i64 ((A : Int) + n)) = w2 at *
    obtain ⟨d0, d1, -, -, -, -⟩ := hR2.cells
    rw [Int.natCast_add] at d1
    have hw1 : IntKind.i64.wrap ((A : Int) + n - n) = (A : Int) := by rw [IntKind.wrap_i64]; omega
    have hw2 : IntKind.i64.wrap (A : Int) = (A : Int) := by rw [IntKind.wrap_i64]; omega
    have b1 : (0 : Int) ≤ A := by omega
    have b2 : (A : Int) ≤ (A : Int) + n := by omega
    have b3 : (A : Int) + n ≤ s.size := by omega
    clear c0 c1 c2 z1 z2
    go_quiet (fail)
    go_wp2_with fail
    go_ret
    exact ⟨rfl, hR2, hO2.trans ⟨rfl, rfl, rfl, Nat.le_refl _, fun _ _ _ => rfl⟩⟩
  · have e : rdT s n A fl = (⟨#[]⟩, A, true) := by simp only [rdT, if_neg hle]
    rw [e]
    have h1 : (s.size : Int) - A < n := by omega
    go_enter Try.func78, Try.ntmps78
    go_wp2_with fail
    go_quiet (fail)
    go_wp2_with fail
    go_ret
    exact ⟨rfl, Rd.fault (w := w.drewN nq) h, (⟨rfl, rfl, rfl, Nat.le_refl _, fun _ _ _ => rfl⟩ : Only p w (w.drewN nq)).trans (Only.set _ _ _)⟩

/-- A text with its size ahead. -/
def rdS (s : ByteArray) (A : Nat) (fl : Bool) : ByteArray × Nat × Bool := rdT s (rdN s A fl).1 (rdN s A fl).2.1 (rdN s A fl).2.2
/-- A byte. -/
def rdB (s : ByteArray) (A : Nat) (fl : Bool) : Int × Nat × Bool := if h : A < s.size then ((s[A].toNat : Int), A + 1, fl) else (0, A, true)

theorem rdN_le {s : ByteArray} {A : Nat} (fl : Bool) (hA : A ≤ s.size) : (rdN s A fl).2.1 ≤ s.size ∧ (rdN s A fl).1 ≤ 72057594037927935 := by
  unfold rdN
  split
  · exact ⟨hA, by simp⟩
  · rename_i n c hg
    obtain ⟨-, h2, h3, -⟩ := gv_some hg
    exact ⟨h2, h3⟩
theorem rdT_le {s : ByteArray} {A : Nat} (n : Nat) (fl : Bool) (hA : A ≤ s.size) : (rdT s n A fl).2.1 ≤ s.size ∧ (rdT s n A fl).1.size ≤ s.size := by
  unfold rdT
  split
  · dsimp only; rw [cut_size s A n (by omega)]; omega
  · exact ⟨hA, Nat.zero_le _⟩
theorem rdS_le {s : ByteArray} {A : Nat} (fl : Bool) (hA : A ≤ s.size) : (rdS s A fl).2.1 ≤ s.size ∧ (rdS s A fl).1.size ≤ s.size := rdT_le _ _ (rdN_le fl hA).1
theorem rdB_le {s : ByteArray} {A : Nat} (fl : Bool) (hA : A ≤ s.size) : (rdB s A fl).2.1 ≤ s.size := by
  unfold rdB
  split
  · dsimp only; omega
  · exact hA
/-- Reading an entry. -/
def rdE (s : ByteArray) (A : Nat) (fl : Bool) : En × Nat × Bool :=
  (⟨(rdS s A fl).1, ((rdN s (rdS s A fl).2.1 (rdS s A fl).2.2).1 : Int), (rdB s (rdN s (rdS s A fl).2.1 (rdS s A fl).2.2).2.1 (rdN s (rdS s A fl).2.1 (rdS s A fl).2.2).2.2).1,
    (rdS s (rdB s (rdN s (rdS s A fl).2.1 (rdS s A fl).2.2).2.1 (rdN s (rdS s A fl).2.1 (rdS s A fl).2.2).2.2).2.1 (rdB s (rdN s (rdS s A fl).2.1 (rdS s A fl).2.2).2.1 (rdN s (rdS s A fl).2.1 (rdS s A fl).2.2).2.2).2.2).1⟩,
   (rdS s (rdB s (rdN s (rdS s A fl).2.1 (rdS s A fl).2.2).2.1 (rdN s (rdS s A fl).2.1 (rdS s A fl).2.2).2.2).2.1 (rdB s (rdN s (rdS s A fl).2.1 (rdS s A fl).2.2).2.1 (rdN s (rdS s A fl).2.1 (rdS s A fl).2.2).2.2).2.2).2)

theorem rdN_fl (s : ByteArray) (A : Nat) : (rdN s A true).2.2 = true := by unfold rdN; split <;> rfl
theorem rdT_fl (s : ByteArray) (n A : Nat) : (rdT s n A true).2.2 = true := by unfold rdT; split <;> rfl
theorem rdS_fl (s : ByteArray) (A : Nat) : (rdS s A true).2.2 = true := by unfold rdS; rw [rdN_fl]; exact rdT_fl _ _ _
theorem rdB_fl (s : ByteArray) (A : Nat) : (rdB s A true).2.2 = true := by unfold rdB; split <;> rfl
theorem rdE_fl (s : ByteArray) (A : Nat) : (rdE s A true).2.2 = true := by
  show (rdS s _ _).2.2 = true
  rw [rdS_fl, rdN_fl, rdB_fl, rdS_fl]
theorem rdS_pc (s : ByteArray) (A : Nat) : (∃ t B, pc s A = some (t, B) ∧ rdS s A false = (t, B, false)) ∨ (pc s A = none ∧ (rdS s A false).2.2 = true) := by
  unfold pc rdS rdN
  cases hg : gv s (A : Int) with
  | none => exact .inr ⟨rfl, rdT_fl _ _ _⟩
  | some q =>
    obtain ⟨n, c⟩ := q
    dsimp only
    unfold rdT
    by_cases h : n ≤ s.size - (A + c)
    · rw [if_pos h, if_pos h]; exact .inl ⟨_, _, rfl, rfl⟩
    · rw [if_neg h, if_neg h]; exact .inr ⟨rfl, rfl⟩
theorem rdN_gv (s : ByteArray) (A : Nat) : (∃ n c, gv s (A : Int) = some (n, c) ∧ rdN s A false = (n, A + c, false)) ∨ (gv s (A : Int) = none ∧ (rdN s A false).2.2 = true) := by
  unfold rdN
  cases hg : gv s (A : Int) with
  | none => exact .inr ⟨rfl, rfl⟩
  | some q => exact .inl ⟨q.1, q.2, rfl, rfl⟩
/-- The reader reads what stands there. -/
theorem rdE_pe (s : ByteArray) (A : Nat) : (∃ e E, pe s A = some (e, E) ∧ rdE s A false = (e, E, false)) ∨ (pe s A = none ∧ (rdE s A false).2.2 = true) := by
  unfold pe
  rcases rdS_pc s A with ⟨t, B, hp, hr⟩ | ⟨hp, hr⟩
  · rw [hp]
    dsimp only
    rcases rdN_gv s B with ⟨n, c, hg, hn⟩ | ⟨hg, hn⟩
    · rw [hg]
      dsimp only
      by_cases hlt : B + c < s.size
      · rw [dif_pos hlt]
        have hb : rdB s (B + c) false = ((s[B + c].toNat : Int), B + c + 1, false) := by unfold rdB; rw [dif_pos hlt]
        rcases rdS_pc s (B + c + 1) with ⟨v, E, hv, hr2⟩ | ⟨hv, hr2⟩
        · rw [hv]
          refine .inl ⟨_, _, rfl, ?_⟩
          unfold rdE
          rw [hr]; dsimp only
          rw [hn]; dsimp only
          rw [hb]; dsimp only
          rw [hr2]
        · rw [hv]
          refine .inr ⟨rfl, ?_⟩
          unfold rdE
          rw [hr]; dsimp only
          rw [hn]; dsimp only
          rw [hb]; dsimp only
          exact hr2
      · rw [dif_neg hlt]
        refine .inr ⟨rfl, ?_⟩
        have hb : (rdB s (B + c) false).2.2 = true := by unfold rdB; rw [dif_neg hlt]
        unfold rdE
        rw [hr]; dsimp only
        rw [hn]; dsimp only
        rw [hb]; exact rdS_fl _ _
    · rw [hg]
      refine .inr ⟨rfl, ?_⟩
      unfold rdE
      rw [hr]; dsimp only
      rw [hn, rdB_fl]; exact rdS_fl _ _
  · rw [hp]
    refine .inr ⟨rfl, ?_⟩
    unfold rdE
    dsimp only
    rw [hr, rdN_fl, rdB_fl]; exact rdS_fl _ _

set_option maxRecDepth 100000 in
set_option maxHeartbeats 1000000 in
theorem sized_any (p A : Nat) (s : ByteArray) (fl : Bool) (w : World) (h : Rd w p s A fl) (hs : s.size ≤ 1048576) (hA : A ≤ s.size) :
    Calls Try.prog 58 #[.pointer (some ⟨p, 0, none⟩)] w fun e w' => e = .returned (.string (rdS s A fl).1) ∧ Rd w' p s (rdS s A fl).2.1 (rdS s A fl).2.2 ∧ Only p w w' := by
  obtain ⟨l1, l2⟩ := rdN_le fl hA
  go_enter Try.func58, Try.ntmps58
  go_wp2_with fail
  refine (number_any p A s fl _ h hs).mono ?_
  rintro e w1 ⟨rfl, h1, ho1⟩
  go_wp2_with fail
  refine (take_any p _ _ s _ _ h1 hs l1 l2).mono ?_
  rintro e w2 ⟨rfl, h2, ho2⟩
  go_wp2_with fail
  go_ret
  exact ⟨rfl, h2, ho1.trans ho2⟩

theorem cut_one (s : ByteArray) (A : Nat) (h : A < s.size) : cut s A (A + 1) = ⟨#[s[A]]⟩ := by
  apply ByteArray.ext
  apply Array.toList_inj.1
  rw [cut_data s A 1 (by omega)]
  have h' : A < s.data.toList.length := by rw [dataL]; exact h
  rw [List.drop_eq_getElem_cons h']
  rfl

set_option maxRecDepth 100000 in
set_option maxHeartbeats 1000000 in
theorem byte_any (p A : Nat) (s : ByteArray) (fl : Bool) (w : World) (h : Rd w p s A fl) (hs : s.size ≤ 1048576) (hA : A ≤ s.size) :
    Calls Try.prog 59 #[.pointer (some ⟨p, 0, none⟩)] w fun e w' => e = .returned (.int .i64 (rdB s A fl).1) ∧ Rd w' p s (rdB s A fl).2.1 (rdB s A fl).2.2 ∧ Only p w w' := by
  by_cases hlt : A < s.size
  · have e1 : rdT s 1 A fl = (⟨#[s[A]]⟩, A + 1, fl) := by unfold rdT; rw [if_pos (by omega), cut_one s A hlt]
    have e2 : rdB s A fl = ((s[A].toNat : Int), A + 1, fl) := by unfold rdB; rw [dif_pos hlt]
    rw [e2]
    have HT := take_any p A 1 s fl w h hs hA (by omega)
    rw [e1] at HT
    replace HT := hd HT
    have hbl := s[A].toNat_lt
    generalize s[A] = x at *
    go_enter Try.func59, Try.ntmps59
    go_wp2_with fail
    refine HT.out.mono ?_
    rintro e w1 ⟨rfl, h1, ho1⟩
    go_wp2_with fail
    have hwx : wrap64 (x.toNat : Int) = x.toNat := by unfold wrap64; omega
    go_ret
    refine ⟨?_, h1, ho1⟩
    show Ending.returned (.int .i64 (wrap64 (x.toNat : Int))) = _
    rw [hwx]
  · have e1 : rdT s 1 A fl = (⟨#[]⟩, A, true) := by unfold rdT; rw [if_neg (by omega)]
    have e2 : rdB s A fl = (0, A, true) := by unfold rdB; rw [dif_neg hlt]
    rw [e2]
    have HT := take_any p A 1 s fl w h hs hA (by omega)
    rw [e1] at HT
    replace HT := hd HT
    go_enter Try.func59, Try.ntmps59
    go_wp2_with fail
    refine HT.out.mono ?_
    rintro e w1 ⟨rfl, h1, ho1⟩
    go_wp2_with fail
    go_ret
    exact ⟨rfl, h1, ho1⟩
end Go.Proofs.Ytnlmebpajjiomab
