import Derived.Test.YtgennghhneckeaaImplAppend

namespace Go.Proofs.Ytgennghhneckeaa
open Go.RowKit Go.Maps
set_option linter.unusedVariables false
set_option linter.unusedSimpArgs false

def outAppend (xs : List Fl) (q fu : Int) (s ss : ByteArray) : Out :=
  if vldB xs q fu = true then ⟨if apCode xs q fu s ss = 0 then wi xs (apF xs s ss) else xs, q, fuel' fu, apCode xs q fu s ss⟩ else outBad

theorem outAppend_len (xs : List Fl) (q fu : Int) (s ss : ByteArray) (h : xs.length ≤ 1048576) : (outAppend xs q fu s ss).ys.length ≤ 1048576 := by
  unfold outAppend
  split
  · rename_i hv
    have := vld_200 hv
    dsimp only
    split
    · exact Nat.le_trans (wi_le _ _) (by omega)
    · exact h
  · simp [outBad]

theorem specAppend_any (a : Option Addr) (cap : Nat) (xs : List Fl) (q fu : Int) (s ss : ByteArray) (w : World) (hx : Lie w a xs) (hf : Fits xs) (hlen : xs.length ≤ 1048576) (hd : datas xs ≤ 1048576) (hhi : fu ≤ 9223372036854775807) (hs : s.size ≤ maxLen) (hss : ss.size ≤ maxLen) (hsm : ss.size ≤ 1048576) (o : Out) (HO : Hid (o = outAppend xs q fu s ss)) :
    Calls Try.prog 9 #[.agg #[.slice a xs.length cap, .int .i64 q, .int .i64 fu], .string s, .string ss] w fun e w' => ∃ a' cap', e = .returned (.tuple #[.agg #[.slice a' o.ys.length cap', .int .i64 o.q, .int .i64 o.fu], .int .i64 o.cd]) ∧ Res w' w.heap.size a' cap' o.ys ∧ Below w.heap.size w w' := by
  cases hv : vldB xs q fu with
  | true =>
    have e : o = ⟨if apCode xs q fu s ss = 0 then wi xs (apF xs s ss) else xs, q, fuel' fu, apCode xs q fu s ss⟩ := by rw [HO.out]; unfold outAppend; rw [if_pos hv]
    subst e
    exact specAppend_ok a cap xs _ q fu _ s ss w hx hf hlen hd hv hhi hs hss hsm rfl rfl
  | false =>
    have e : o = outBad := by rw [HO.out]; unfold outAppend; rw [if_neg (by simp [hv])]
    subst e
    refine (specAppend_bad a cap xs q fu s ss w hx hf hlen hd hv).mono ?_
    rintro e w' ⟨rfl, hb⟩
    exact ⟨none, 0, rfl, .inl rfl, hb⟩

theorem implAppend_any (a : Option Addr) (cap : Nat) (xs : List Fl) (q fu : Int) (s ss : ByteArray) (w : World) (hx : Lie w a xs) (hf : Fits xs) (hlen : xs.length ≤ 1048576) (hd : datas xs ≤ 1048576) (hhi : fu ≤ 9223372036854775807) (hs : s.size ≤ maxLen) (hss : ss.size ≤ maxLen) (hsm : ss.size ≤ 1048576) (o : Out) (HO : Hid (o = outAppend xs q fu s ss)) :
    Calls Try.prog 8 #[.agg #[.slice a xs.length cap, .int .i64 q, .int .i64 fu], .string s, .string ss] w fun e w' => ∃ a' cap', e = .returned (.tuple #[.agg #[.slice a' o.ys.length cap', .int .i64 o.q, .int .i64 o.fu], .int .i64 o.cd]) ∧ Res w' w.heap.size a' cap' o.ys ∧ Below w.heap.size w w' := by
  cases hv : vldB xs q fu with
  | true =>
    have e : o = ⟨if apCode xs q fu s ss = 0 then wi xs (apF xs s ss) else xs, q, fuel' fu, apCode xs q fu s ss⟩ := by rw [HO.out]; unfold outAppend; rw [if_pos hv]
    subst e
    exact implAppend_ok a cap xs _ q fu _ s ss w hx hf hlen hd hv hhi hs hss hsm rfl rfl
  | false =>
    have e : o = outBad := by rw [HO.out]; unfold outAppend; rw [if_neg (by simp [hv])]
    subst e
    refine (implAppend_bad a cap xs q fu s ss w hx hf hlen hd hv).mono ?_
    rintro e w' ⟨rfl, hb⟩
    exact ⟨none, 0, rfl, .inl rfl, hb⟩
end Go.Proofs.Ytgennghhneckeaa
