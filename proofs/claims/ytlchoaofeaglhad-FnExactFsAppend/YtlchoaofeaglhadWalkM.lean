import Derived.Test.YtlchoaofeaglhadWalkL
namespace Go.Proofs.Ytlchoaofeaglhad
open Go.RowKit Go.Maps
set_option linter.unusedVariables false
set_option linter.unusedSimpArgs false

section
variable (w : World) {ops : Array Oper} {rest : List Oper} {o : Oper} {a : Act} {Q : Exit → Act → World → Prop}
/-- 'delete(m, k)' on a directory's map. -/
theorem wpList_delete_dir (hg : o.guard = none) (m x : Operand) (hop : o.op = Op.call { callee := Callee.builtin Builtin.delete, args := #[m, x], argTypes := #[92, 9] })
    {b c : Nat} {mm : List UInt8 → Option (ByteArray × Int)} {s : ByteArray} (hm : a.eval m = .map (some b)) (hx : a.eval x = .string s) (hd : Dir w b c mm) (hs : s.size ≤ maxLen)
    (hK : ∀ w', Dir w' b (if (mm s.data.toList).isSome then c - 1 else c) (del mm s.data.toList) → w.mapTurned w' b → wpList Try.prog ops Q rest (a.put o.dst (.tuple #[])) w') :
    wpList Try.prog ops Q (o :: rest) a w := by
  refine wpList_plain hg fun K' hK' => ?_
  obtain ⟨w', hrun, r1, r2⟩ := hd.drop hs o.type
  unfold Oper.wp
  simp [execOp, hop, resolve, invoke, builtin, hm, hx, hrun, Result.andThen]
  exact hK' _ _ (hK w' r1 r2)
/-- 'len(m)'. -/
theorem wpList_len_dir (hg : o.guard = none) (m : Operand) (hop : o.op = Op.call { callee := Callee.builtin Builtin.len, args := #[m], argTypes := #[92] })
    {b c : Nat} {mm : List UInt8 → Option (ByteArray × Int)} (hm : a.eval m = .map (some b)) (hd : Dir w b c mm)
    (hK : wpList Try.prog ops Q rest (a.put o.dst (.int .i64 c)) w) :
    wpList Try.prog ops Q (o :: rest) a w := by
  refine wpList_plain hg fun K' hK' => ?_
  unfold Oper.wp
  simp [execOp, hop, resolve, invoke, builtin, hm, hd.len o.type, Result.andThen]
  exact hK' _ _ hK
end

/-- The locked object, and all that was there but for it. -/
theorem dir_kept {w w1 : World} {ex : List Nat} {B mb c : Nat} {m : List UInt8 → Option (ByteArray × Int)} (hd : Dir w mb c m) (h : But ex B w w1) (hB : mb < B) (hn : mb ∉ ex) : Dir w1 mb c m := hd.block (h.block mb hB hn)

/-- beginAt with no other name. -/
theorem beginAt_nil (g mb c : Nat) (l0 l4 q fu : Int) (s : ByteArray) (m : List UInt8 → Option (ByteArray × Int)) (w : World) (h : Ob w g l0 l4 mb q fu) (hd : Dir w mb c m) (hlo : -1 ≤ fu) (hhi : fu ≤ 9223372036854775807) (hs : s.size ≤ maxLen) :
    Calls Try.prog 66 #[.pointer (some ⟨g, 0, none⟩), .string s, .slice none 0 0] w fun e w' =>
      e = .returned (.tuple #[contV (atCont fu (nmOk s) (m s.data.toList)).1 (atCont fu (nmOk s) (m s.data.toList)).2, .int .i64 (atCode fu (nmOk s) (m s.data.toList))]) ∧
      Ob w' g l0 l4 mb q (fuel' fu) ∧ But [g] w.heap.size w w' := by
  have := beginAt_any g mb c w.heap.size l0 l4 q fu none 0 [] s m w h hd hlo hhi ⟨rfl, .inl ⟨rfl, rfl⟩⟩ h.lt hd.lt (Nat.le_refl _) (fun x hx => by cases hx) hs (by simp)
  have e : ([] ++ [s]).all nmOk = nmOk s := by simp
  rw [e] at this
  exact this

theorem atCode_some {fu : Int} {ok : Bool} {o : Option (ByteArray × Int)} (h : atCode fu ok o = 0) : ∃ x, o = some x := by
  unfold atCode at h
  cases o with
  | some x => exact ⟨x, rfl⟩
  | none =>
    exfalso
    split at h
    · exact absurd h (by assumption)
    · simp at h

set_option maxRecDepth 100000 in
set_option maxHeartbeats 1000000 in
theorem remove_any (g mb c : Nat) (q fu : Int) (s : ByteArray) (m : List UInt8 → Option (ByteArray × Int)) (w : World) (h : Ob w g 0 0 mb q fu) (hd : Dir w mb c m) (hlo : -1 ≤ fu) (hhi : fu ≤ 9223372036854775807) (hs : s.size ≤ maxLen) :
    Calls Try.prog 38 #[.pointer (some ⟨g, 0, none⟩), .string s] w fun e w' =>
      e = .returned (.int .i64 (atCode fu (nmOk s) (m s.data.toList))) ∧ Ob w' g 0 0 mb q (fuel' fu) ∧
      Dir w' mb (if atCode fu (nmOk s) (m s.data.toList) = 0 then c - 1 else c) (if atCode fu (nmOk s) (m s.data.toList) = 0 then del m s.data.toList else m) ∧ But [g, mb] w.heap.size w w' := by
  have hne := h.ne hd
  have hgl := h.lt
  have hml := hd.lt
  generalize hcd : atCode fu (nmOk s) (m s.data.toList) = cd
  have HC : Hid (atCode fu (nmOk s) (m s.data.toList) = cd) := hcd
  clear hcd
  go_enter_defers Try.func38, Try.ntmps38
  go_wp2_with fail
  refine (wlock_dir g mb q fu _ h).mono ?_
  rintro e w1 ⟨rfl, hob1, hbut1, hsz1⟩
  have hd1 := dir_kept hd hbut1 hml (by simpa using hne.symm)
  have hs1 : w1.heap.size = w.heap.size := hsz1
  clear hsz1
  go_wp2_with fail
  refine (beginAt_nil g mb c _ _ q fu s m _ hob1 hd1 hlo hhi hs).mono ?_
  rintro e w2 ⟨rfl, hob2, hbut2⟩
  rw [HC.out]
  obtain ⟨c6, c7, c8, z8⟩ := hob2.cells
  have hd2 := dir_kept hd1 hbut2 hd1.lt (by simpa using hne.symm)
  have hbut : But [g] w.heap.size w w2 := hbut1.trans (hbut2.mono (by omega))
  have hg2 : g < w2.heap.size := hob2.lt
  have hm2 : mb < w2.heap.size := hd2.lt
  have hle : w.heap.size ≤ w2.heap.size := hbut.size
  generalize atCont fu (nmOk s) (m s.data.toList) = ct
  clear hob1 hd1 hbut1 hbut2 hs1 h hd c7 c8 z8
  by_cases h0 : cd = 0
  · subst h0
    obtain ⟨x, hx⟩ := atCode_some HC.out
    have HX : Hid (m s.data.toList = some x) := hx
    clear hx HC
    go_wp2_with (at_delete; refine wpList_delete_dir _ rfl _ _ rfl rfl rfl (hd2.alloc _) hs ?_; intro w3 hd3 hturn)
    have hob3 : Ob w3 g 1 (-1073741824) mb q (fuel' fu) := hob2.block ((turned_block hturn (by simp; omega) hne).trans (Below.heap_alloc _ _ _ hg2))
    have hbut3 : But [g, mb] w.heap.size w w3 := ((hbut.more (by simp)).trans (But.of ((Below.refl _ _).alloc hle _))).trans (But.turned hturn (by simp))
    rw [HX.out] at hd3
    refine leaves_cons (f := 65) (args := #[.pointer (some ⟨g, 0, none⟩)]) (by simp) (by simp [go_sem]) ?_
    refine (wunlock_dir g mb q (fuel' fu) .returning _ hob3).mono ?_
    rintro e u' w4 ⟨rfl, rfl, hob4, hbut4, hsz4⟩
    refine ⟨_, results_tmp rfl _ _ _, rfl, hob4, dir_kept hd3 hbut4 hd3.lt (by simpa using hne.symm), hbut3.trans ((hbut4.mono ?_).more (by simp))⟩
    have := hturn.grown.size
    simp at this
    omega
  · have h0' : (cd != 0) = true := by simpa using h0
    have HN : Hid (¬ cd = 0) := h0
    clear h0
    go_wp2
    refine leaves_cons (f := 65) (args := #[.pointer (some ⟨g, 0, none⟩)]) (by simp) (by simp [go_sem]) ?_
    refine (wunlock_dir g mb q (fuel' fu) .returning _ (hob2.block (Below.heap_alloc _ _ _ hg2))).mono ?_
    rintro e u' w4 ⟨rfl, rfl, hob4, hbut4, hsz4⟩
    refine ⟨_, results_tmp rfl _ _ _, rfl, hob4, ?_, ((hbut.more (by simp)).trans (But.of ((Below.refl _ _).alloc hle _))).trans ((hbut4.mono (by simp; omega)).more (by simp))⟩
    exact dir_kept (hd2.alloc _) hbut4 (by simp; omega) (by simpa using hne.symm)
end Go.Proofs.Ytlchoaofeaglhad
