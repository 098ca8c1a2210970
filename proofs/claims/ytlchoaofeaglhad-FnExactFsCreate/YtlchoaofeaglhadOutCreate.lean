import Derived.Test.YtlchoaofeaglhadOutRemove
import Derived.Test.YtlchoaofeaglhadSpecCreate
import Derived.Test.YtlchoaofeaglhadImplCreate
namespace Go.Proofs.Ytlchoaofeaglhad
open Go.RowKit Go.Maps
set_option linter.unusedVariables false
set_option linter.unusedSimpArgs false

def outCreate (xs : List Fl) (q fu : Int) (s : ByteArray) : Out :=
  if vldB xs q fu = true then ⟨if crCode fu (nmOk s) (fm xs s.data.toList) xs.length = 0 then wi xs (crF s) else xs, q, fuel' fu, crCode fu (nmOk s) (fm xs s.data.toList) xs.length⟩ else outBad

theorem outCreate_len (xs : List Fl) (q fu : Int) (s : ByteArray) (h : xs.length ≤ 1048576) : (outCreate xs q fu s).ys.length ≤ 1048576 := by
  unfold outCreate
  split
  · rename_i hv
    have := vld_200 hv
    dsimp only
    split
    · exact Nat.le_trans (wi_le _ _) (by omega)
    · exact h
  · simp [outBad]

theorem specCreate_any (a : Option Addr) (cap : Nat) (xs : List Fl) (q fu : Int) (s : ByteArray) (w : World) (hx : Lie w a xs) (hf : Fits xs) (hlen : xs.length ≤ 1048576) (hd : datas xs ≤ 1048576) (hhi : fu ≤ 9223372036854775807) (hs : s.size ≤ maxLen) (o : Out) (HO : Hid (o = outCreate xs q fu s)) :
    Calls Try.prog 25 #[.agg #[.slice a xs.length cap, .int .i64 q, .int .i64 fu], .string s] w fun e w' => ∃ a' cap', e = .returned (.tuple #[.agg #[.slice a' o.ys.length cap', .int .i64 o.q, .int .i64 o.fu], .int .i64 o.cd]) ∧ Res w' w.heap.size a' cap' o.ys ∧ Below w.heap.size w w' := by
  cases hv : vldB xs q fu with
  | true =>
    have e : o = ⟨if crCode fu (nmOk s) (fm xs s.data.toList) xs.length = 0 then wi xs (crF s) else xs, q, fuel' fu, crCode fu (nmOk s) (fm xs s.data.toList) xs.length⟩ := by rw [HO.out]; unfold outCreate; rw [if_pos hv]
    subst e
    exact specCreate_ok a cap xs _ q fu _ s w hx hf hlen hd hv hhi hs rfl rfl
  | false =>
    have e : o = outBad := by rw [HO.out]; unfold outCreate; rw [if_neg (by simp [hv])]
    subst e
    refine (specCreate_bad a cap xs q fu s w hx hf hlen hd hv).mono ?_
    rintro e w' ⟨rfl, hb⟩
    exact ⟨none, 0, rfl, .inl rfl, hb⟩

theorem implCreate_any (a : Option Addr) (cap : Nat) (xs : List Fl) (q fu : Int) (s : ByteArray) (w : World) (hx : Lie w a xs) (hf : Fits xs) (hlen : xs.length ≤ 1048576) (hd : datas xs ≤ 1048576) (hhi : fu ≤ 9223372036854775807) (hs : s.size ≤ maxLen) (o : Out) (HO : Hid (o = outCreate xs q fu s)) :
    Calls Try.prog 26 #[.agg #[.slice a xs.length cap, .int .i64 q, .int .i64 fu], .string s] w fun e w' => ∃ a' cap', e = .returned (.tuple #[.agg #[.slice a' o.ys.length cap', .int .i64 o.q, .int .i64 o.fu], .int .i64 o.cd]) ∧ Res w' w.heap.size a' cap' o.ys ∧ Below w.heap.size w w' := by
  cases hv : vldB xs q fu with
  | true =>
    have e : o = ⟨if crCode fu (nmOk s) (fm xs s.data.toList) xs.length = 0 then wi xs (crF s) else xs, q, fuel' fu, crCode fu (nmOk s) (fm xs s.data.toList) xs.length⟩ := by rw [HO.out]; unfold outCreate; rw [if_pos hv]
    subst e
    exact implCreate_ok a cap xs _ q fu _ s w hx hf hlen hd hv hhi hs rfl rfl
  | false =>
    have e : o = outBad := by rw [HO.out]; unfold outCreate; rw [if_neg (by simp [hv])]
    subst e
    refine (implCreate_bad a cap xs q fu s w hx hf hlen hd hv).mono ?_
    rintro e w' ⟨rfl, hb⟩
    exact ⟨none, 0, rfl, .inl rfl, hb⟩
end Go.Proofs.Ytlchoaofeaglhad
