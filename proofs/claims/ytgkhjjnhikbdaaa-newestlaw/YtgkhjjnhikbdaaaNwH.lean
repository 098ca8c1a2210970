import Derived.Test.YtgkhjjnhikbdaaaNwG

namespace Go.Proofs.Ytgkhjjnhikbdaaa
open Go.RowKit Go.Maps
set_option linter.unusedVariables false
set_option linter.unusedSimpArgs false

/-- One more put in its place: it goes left past all that it comes before. -/
theorem ins_ok {D P Q : List En} {e : En} (hD : Srtd befE D) (hPQ : D = P ++ Q) (hQ : ∀ q ∈ Q, befE e q = true) (hP : ∀ p, P.getLast? = some p → befE e p = false) : Srtd befE (P ++ e :: Q) ∧ Sm befE (D ++ [e]) (P ++ e :: Q) := by
  subst hPQ
  obtain ⟨h1, h2, h3⟩ := List.pairwise_append.1 hD
  refine ⟨List.pairwise_append.2 ⟨h1, List.pairwise_cons.2 ⟨fun q hq => befE_swo.asy (hQ q hq), h2⟩, fun p hp x hx => ?_⟩, ?_⟩
  · rcases List.mem_cons.1 hx with rfl | hx
    · cases hl : P.getLast? with
      | none => rw [List.getLast?_eq_none_iff] at hl; subst hl; simp at hp
      | some z =>
        have hz := hP z hl
        obtain ⟨P', rfl⟩ := List.getLast?_eq_some_iff.1 hl
        rcases List.mem_append.1 hp with hp | hp
        · have := (List.pairwise_append.1 h1).2.2 p hp z (by simp)
          exact befE_swo.neg x z p hz this
        · have : p = z := by simpa using hp
          subst this; exact hz
    · exact h3 p hp x hx
  · have h4 : Sm befE (Q ++ [e]) ([e] ++ Q) := Sm.blocks befE_swo (fun x hx y hy => by
      have : y = e := by simpa using hy
      subst this; exact hQ x hx)
    have e1 : P ++ Q ++ [e] = P ++ (Q ++ [e]) := by simp
    rw [e1]
    exact Sm.app (Sm.refl P) h4
end Go.Proofs.Ytgkhjjnhikbdaaa
