import Derived.Test.YtogcpllpkdeehaaGreatDoorDecS

namespace Go.Proofs.YtogcpllpkdeehaaGreatDoor
open Go.RowKit Go.Maps
set_option linter.unusedVariables false
set_option linter.unusedSimpArgs false

/-- Reading a count of at most M. -/
def rdC (s : ByteArray) (M A : Nat) (fl : Bool) : Nat × Nat × Bool := if M < (rdN s A fl).1 then (0, (rdN s A fl).2.1, true) else rdN s A fl

set_option maxRecDepth 100000 in
set_option maxHeartbeats 1000000 in
theorem count_any (p A M : Nat) (s : ByteArray) (fl : Bool) (w : World) (h : Rd w p s A fl) (hs : s.size ≤ 1048576) (hA : A ≤ s.size) (hM : M ≤ 1000) :
    Calls Tryz.prog 34 #[.pointer (some ⟨p, 0, none⟩), .int .i64 M] w fun e w' => e = .returned (.int .i64 (rdC s M A fl).1) ∧ Rd w' p s (rdC s M A fl).2.1 (rdC s M A fl).2.2 ∧ Only p w w' := by
  have hle := (rdN_le fl hA).2
  have HN := hd (fun (w : World) (h : Rd w p s A fl) => number_any p A s fl w h hs)
  unfold rdC
  generalize rdN s A fl = r at *
  obtain ⟨n, A1, f1⟩ := r
  dsimp only at *
  by_cases hlt : M < n
  · rw [if_pos hlt]
    have h' : (M : Int) < n := by omega
    go_enter Tryz.func34, Tryz.ntmps34
    go_wp2_with fail
    refine (HN.out _ h).mono ?_
    rintro e w1 ⟨rfl, h1, ho1⟩
    obtain ⟨c0, c1, c2, z1, z2, hlt1⟩ := h1.cells
    go_wp2_with fail
    go_ret
    exact ⟨rfl, h1.fault, ho1.trans (Only.set _ _ _)⟩
  · rw [if_neg hlt]
    have h' : ¬ (M : Int) < n := by omega
    go_enter Tryz.func34, Tryz.ntmps34
    go_wp2_with fail
    refine (HN.out _ h).mono ?_
    rintro e w1 ⟨rfl, h1, ho1⟩
    go_wp2_with fail
    go_ret
    exact ⟨rfl, h1, ho1⟩
theorem rdC_le {s : ByteArray} {M A : Nat} (fl : Bool) (hA : A ≤ s.size) : (rdC s M A fl).2.1 ≤ s.size ∧ (rdC s M A fl).1 ≤ M := by
  have h := rdN_le (s := s) fl hA
  unfold rdC
  split
  · exact ⟨h.1, Nat.zero_le _⟩
  · exact ⟨h.1, by omega⟩
theorem rdC_gv (s : ByteArray) (M A : Nat) : (∃ n c, gv s (A : Int) = some (n, c) ∧ n ≤ M ∧ rdC s M A false = (n, A + c, false)) ∨ ((∀ n c, gv s (A : Int) = some (n, c) → M < n) ∧ (rdC s M A false).2.2 = true) := by
  rcases rdN_gv s A with ⟨n, c, hg, hr⟩ | ⟨hg, hr⟩
  · unfold rdC
    rw [hr]
    by_cases h : M < n
    · rw [if_pos h]
      refine .inr ⟨fun n' c' h' => ?_, rfl⟩
      rw [hg] at h'
      cases h'
      exact h
    · rw [if_neg h]
      exact .inl ⟨n, c, hg, by omega, rfl⟩
  · unfold rdC
    refine .inr ⟨fun n' c' h' => ?_, ?_⟩
    · rw [hg] at h'; cases h'
    · split
      · rfl
      · exact hr
end Go.Proofs.YtogcpllpkdeehaaGreatDoor
