import Derived.Test.YtlchoaofeaglhadLawBase
import Derived.Test.YtlchoaofeaglhadSpecRemove
import Derived.Test.YtlchoaofeaglhadImplRemove
namespace Go.Proofs.Ytlchoaofeaglhad
open Go.RowKit Go.Maps
set_option linter.unusedVariables false
set_option linter.unusedSimpArgs false

/-- What a step leaves and answers. -/
structure Out where
  ys : List Fl
  q : Int
  fu : Int
  cd : Int
def outBad : Out := ⟨[], 0, 0, 9⟩
def outRemove (xs : List Fl) (q fu : Int) (s : ByteArray) : Out :=
  if vldB xs q fu = true then ⟨if atCode fu (nmOk s) (fm xs s.data.toList) = 0 then wo xs s else xs, q, fuel' fu, atCode fu (nmOk s) (fm xs s.data.toList)⟩ else outBad

theorem outRemove_len (xs : List Fl) (q fu : Int) (s : ByteArray) (h : xs.length ≤ 1048576) : (outRemove xs q fu s).ys.length ≤ 1048576 := by
  unfold outRemove
  split
  · dsimp only
    split
    · exact Nat.le_trans (wo_length _ _) h
    · exact h
  · simp [outBad]

theorem specRemove_any (a : Option Addr) (cap : Nat) (xs : List Fl) (q fu : Int) (s : ByteArray) (w : World) (hx : Lie w a xs) (hf : Fits xs) (hlen : xs.length ≤ 1048576) (hd : datas xs ≤ 1048576) (hhi : fu ≤ 9223372036854775807) (hs : s.size ≤ maxLen) (o : Out) (HO : Hid (o = outRemove xs q fu s)) :
    Calls Try.prog 10 #[.agg #[.slice a xs.length cap, .int .i64 q, .int .i64 fu], .string s] w fun e w' => ∃ a' cap', e = .returned (.tuple #[.agg #[.slice a' o.ys.length cap', .int .i64 o.q, .int .i64 o.fu], .int .i64 o.cd]) ∧ Res w' w.heap.size a' cap' o.ys ∧ Below w.heap.size w w' := by
  cases hv : vldB xs q fu with
  | true =>
    have e : o = ⟨if atCode fu (nmOk s) (fm xs s.data.toList) = 0 then wo xs s else xs, q, fuel' fu, atCode fu (nmOk s) (fm xs s.data.toList)⟩ := by rw [HO.out]; unfold outRemove; rw [if_pos hv]
    subst e
    exact specRemove_ok a cap xs _ q fu _ s w hx hf hlen hd hv hhi hs rfl rfl
  | false =>
    have e : o = outBad := by rw [HO.out]; unfold outRemove; rw [if_neg (by simp [hv])]
    subst e
    refine (specRemove_bad a cap xs q fu s w hx hf hlen hd hv).mono ?_
    rintro e w' ⟨rfl, hb⟩
    exact ⟨none, 0, rfl, .inl rfl, hb⟩

theorem implRemove_any (a : Option Addr) (cap : Nat) (xs : List Fl) (q fu : Int) (s : ByteArray) (w : World) (hx : Lie w a xs) (hf : Fits xs) (hlen : xs.length ≤ 1048576) (hd : datas xs ≤ 1048576) (hhi : fu ≤ 9223372036854775807) (hs : s.size ≤ maxLen) (o : Out) (HO : Hid (o = outRemove xs q fu s)) :
    Calls Try.prog 12 #[.agg #[.slice a xs.length cap, .int .i64 q, .int .i64 fu], .string s] w fun e w' => ∃ a' cap', e = .returned (.tuple #[.agg #[.slice a' o.ys.length cap', .int .i64 o.q, .int .i64 o.fu], .int .i64 o.cd]) ∧ Res w' w.heap.size a' cap' o.ys ∧ Below w.heap.size w w' := by
  cases hv : vldB xs q fu with
  | true =>
    have e : o = ⟨if atCode fu (nmOk s) (fm xs s.data.toList) = 0 then wo xs s else xs, q, fuel' fu, atCode fu (nmOk s) (fm xs s.data.toList)⟩ := by rw [HO.out]; unfold outRemove; rw [if_pos hv]
    subst e
    exact implRemove_ok a cap xs _ q fu _ s w hx hf hlen hd hv hhi hs rfl rfl
  | false =>
    have e : o = outBad := by rw [HO.out]; unfold outRemove; rw [if_neg (by simp [hv])]
    subst e
    refine (implRemove_bad a cap xs q fu s w hx hf hlen hd hv).mono ?_
    rintro e w' ⟨rfl, hb⟩
    exact ⟨none, 0, rfl, .inl rfl, hb⟩
end Go.Proofs.Ytlchoaofeaglhad
