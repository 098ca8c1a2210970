import Derived.Test.YtgennghhneckeaaImplSync

namespace Go.Proofs.Ytgennghhneckeaa
open Go.RowKit Go.Maps
set_option linter.unusedVariables false
set_option linter.unusedSimpArgs false

def outSync (xs : List Fl) (q fu : Int) (s : ByteArray) : Out :=
  if vldB xs q fu = true then ⟨if atCode fu (nmOk s) (fm xs s.data.toList) = 0 then wi xs (syF xs s) else xs, q, fuel' fu, atCode fu (nmOk s) (fm xs s.data.toList)⟩ else outBad

theorem outSync_len (xs : List Fl) (q fu : Int) (s : ByteArray) (h : xs.length ≤ 1048576) : (outSync xs q fu s).ys.length ≤ 1048576 := by
  unfold outSync
  split
  · rename_i hv
    have := vld_200 hv
    dsimp only
    split
    · exact Nat.le_trans (wi_le _ _) (by omega)
    · exact h
  · simp [outBad]

theorem implSync_any (a : Option Addr) (cap : Nat) (xs : List Fl) (q fu : Int) (s : ByteArray) (w : World) (hx : Lie w a xs) (hf : Fits xs) (hlen : xs.length ≤ 1048576) (hd : datas xs ≤ 1048576) (hhi : fu ≤ 9223372036854775807) (hs : s.size ≤ maxLen) (o : Out) (HO : Hid (o = outSync xs q fu s)) :
    Calls Try.prog 7 #[.agg #[.slice a xs.length cap, .int .i64 q, .int .i64 fu], .string s] w fun e w' => ∃ a' cap', e = .returned (.tuple #[.agg #[.slice a' o.ys.length cap', .int .i64 o.q, .int .i64 o.fu], .int .i64 o.cd]) ∧ Res w' w.heap.size a' cap' o.ys ∧ Below w.heap.size w w' := by
  cases hv : vldB xs q fu with
  | true =>
    have e : o = ⟨if atCode fu (nmOk s) (fm xs s.data.toList) = 0 then wi xs (syF xs s) else xs, q, fuel' fu, atCode fu (nmOk s) (fm xs s.data.toList)⟩ := by rw [HO.out]; unfold outSync; rw [if_pos hv]
    subst e
    exact implSync_ok a cap xs _ q fu _ s w hx hf hlen hd hv hhi hs rfl rfl
  | false =>
    have e : o = outBad := by rw [HO.out]; unfold outSync; rw [if_neg (by simp [hv])]
    subst e
    refine (implSync_bad a cap xs q fu s w hx hf hlen hd hv).mono ?_
    rintro e w' ⟨rfl, hb⟩
    exact ⟨none, 0, rfl, .inl rfl, hb⟩
end Go.Proofs.Ytgennghhneckeaa
