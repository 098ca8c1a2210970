
import Derived.Test.YtnnhdfplbhdcaacWalkL
namespace Go.Proofs.Ytnnhdfplbhdcaac
open Go.RowKit Go.Maps
set_option linter.unusedVariables false
set_option linter.unusedSimpArgs false

section
variable (w : World) {ops : Array Oper} {rest : List Oper} {o : Oper} {a : Act} {Q : Exit → Act → World → Prop}
/-- 'delete(m, k)' on a directory's map. -/
theorem wpList_delete_dir (hg : o.guard = none) (m x : Operand) (hop : o.op = Op.call { callee := Callee.builtin Builtin.delete, args := #[m, x], argTypes := #[56, 9] })
    {b c : Nat} {mm : List UInt8 → Option (ByteArray × Int)} {s : ByteArray} (hm : a.eval m = .map (some b)) (hx : a.eval x = .string s) (hd : Dir w b c mm) (hs : s.size ≤ maxLen)
    (hK : ∀ w', Dir w' b (if (mm s.data.toList).isSome then c - 1 else c) (del mm s.data.toList) → w.mapTurned w' b → wpList Try.prog ops Q rest (a.put o.dst (.tuple #[])) w') :
    wpList Try.prog ops Q (o :: rest) a w := by
  refine wpList_plain hg fun K' hK' => ?_
  obtain ⟨w', hrun, r1, r2⟩ := hd.drop hs o.type
  unfold Oper.wp
  simp [execOp, hop, resolve, invoke, builtin, hm, hx, hrun, Result.andThen]
  exact hK' _ _ (hK w' r1 r2)
/-- 'len(m)'. -/
theorem wpList_len_dir (hg : o.guard = none) (m : Operand) (hop : o.op = Op.call { callee := Callee.builtin Builtin.len, args := #[m], argTypes := #[56] })
    {b c : Nat} {mm : List UInt8 → Option (ByteArray × Int)} (hm : a.eval m = .map (some b)) (hd : Dir w b c mm)
    (hK : wpList Try.prog ops Q rest (a.put o.dst (.int .i64 c)) w) :
    wpList Try.prog ops Q (o :: rest) a w := by
  refine wpList_plain hg fun K' hK' => ?_
  unfold Oper.wp
  simp [execOp, hop, resolve, invoke, builtin, hm, hd.len o.type, Result.andThen]
  exact hK' _ _ hK
end

/-- The locked object, and all that was there but for it. -/
theorem dir_kept {w w1 : World} {ex : List Nat} {B mb c : Nat} {m : List UInt8 → Option (ByteArray × Int)} (hd : Dir w mb c m) (h : But ex B w w1) (hB : mb < B) (hn : mb ∉ ex) : Dir w1 mb c m := hd.block (h.block mb hB hn)

theorem atCode_some {fu : Int} {ok : Bool} {o : Option (ByteArray × Int)} (h : atCode fu ok o = 0) : ∃ x, o = some x := by
  unfold atCode at h
  cases o with
  | some x => exact ⟨x, rfl⟩
  | none =>
    exfalso
    split at h
    · exact absurd h (by assumption)
    · simp at h

end Go.Proofs.Ytnnhdfplbhdcaac
