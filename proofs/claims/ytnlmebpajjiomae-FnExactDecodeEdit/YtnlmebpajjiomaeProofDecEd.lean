
import Derived.Test.YtnlmebpajjiomaeDeD
import Derived.Test.YtnlmebpajjiomaeDeK
import Derived.ProofKit
import Derived.OpenShut
import Derived.ShutString
import Derived.ChangeOld
import Derived.Carry
import Derived.Lib.SmallJoins
import Derived.Deep.Slices
import Derived.Deep.Strs
namespace Go.Proofs.Ytnlmebpajjiomae
open Go.ChangeShapes Go.WideShapes Go.ChangeAt Go.RowKit
open Go.ChangeMaps (open_string shut_string)
set_option linter.unusedVariables false
set_option linter.unusedSimpArgs false

theorem edR_len (s : ByteArray) : (edR s).ad.length ≤ 1000 ∧ (edR s).dl.length ≤ 1000 := by
  unfold edR
  cases h : decEd s with
  | none => exact ⟨by simp [ed0], by simp [ed0]⟩
  | some e =>
    unfold decEd at h
    split at h
    · cases h
    · split at h
      · rename_i hh
        cases h
        obtain ⟨q1, _, q3, _⟩ := (edOk_iff _).1 hh.2
        exact ⟨q1, q3⟩
      · cases h

set_option maxRecDepth 100000 in
set_option maxHeartbeats 4000000 in
theorem lawDecEd_any (s : ByteArray) (w : World) (hs : s.size ≤ maxLen) :
    Calls Try.prog 3 #[.string s] w fun e w' => e = .returned (.bool true) ∧ Below w.heap.size w w' := by
  unfold maxLen at hs
  by_cases hbig : (1048576 : Int) < s.size
  · go_enter Try.func3, Try.ntmps3
    go_wp2_with fail
    go_ret
    exact ⟨rfl, Below.refl _ _⟩
  · have hs' : s.size ≤ 1048576 := by omega
    have HSp := hd (fun w => specDecEd_any s w hs')
    have HIm := hd (fun w => implDecEd_any s w hs')
    obtain ⟨hlen1, hlen2⟩ := edR_len s
    generalize edR s = E at *
    generalize (decEd s).isSome = ok at *
    have HEq := hd (fun a ca d cd a' ca' d' cd' (w : World) hx hy hx' hy' => eqEdit_same a ca d cd a' ca' d' cd' E w hx hy hx' hy' (by omega) (by omega))
    have HMk := hd (fun a ca d cd base (w : World) hT hI hb => markEdit_any a ca d cd E base w hT hI hlen1 hlen2 hb)
    have HHl := hd (fun a ca d cd (w : World) hT hI => heldEdit_any a ca d cd E w hT hI hlen1 hlen2)
    have q0 : ¬ ((1 + 4 * E.ad.length + E.dl.length : Nat) : Int) < 0 := by omega
    generalize ((1 + 4 * E.ad.length + E.dl.length : Nat) : Int) = MM at *
    go_enter Try.func3, Try.ntmps3
    go_wp2_with fail
    refine (HSp.out _).mono ?_
    rintro r w1 ⟨a1, ca1, d1, cd1, rfl, hT1, hI1, hb1⟩
    have ha1 : Below w1.heap.size w1 (w1.alloc (.cells #[.slice a1 E.ad.length ca1, .slice d1 E.dl.length cd1, .int .i64 E.lg, .int .i64 E.nx, .int .i64 E.la] 25)) := (Below.refl _ _).alloc (Nat.le_refl _) _
    have hX1 : (w1.alloc (.cells #[.slice a1 E.ad.length ca1, .slice d1 E.dl.length cd1, .int .i64 E.lg, .int .i64 E.nx, .int .i64 E.la] 25)).heap[w1.heap.size]? = some (.cells #[.slice a1 E.ad.length ca1, .slice d1 E.dl.length cd1, .int .i64 E.lg, .int .i64 E.nx, .int .i64 E.la] 25 (0, 0)) := World.heap_alloc_new _ _
    go_wp2_with fail
    refine (HIm.out _).mono ?_
    rintro r w2 ⟨a2, ca2, d2, cd2, rfl, hT2, hI2, hb2⟩
    rw [size_alloc] at hT2 hI2
    have hs2 : w1.heap.size + 1 ≤ w2.heap.size := by have := hb2.size; rw [size_alloc] at this; exact this
    have hX2 := (hb2.block w1.heap.size (by simp)).trans hX1
    have hb12 : Below w1.heap.size w1 w2 := ha1.trans (hb2.mono ha1.size)
    have hT12 := hT1.below hb12
    have hI12 := hI1.below hb12
    have ha2 : Below w2.heap.size w2 (w2.alloc (.cells #[.slice a2 E.ad.length ca2, .slice d2 E.dl.length cd2, .int .i64 E.lg, .int .i64 E.nx, .int .i64 E.la] 25)) := (Below.refl _ _).alloc (Nat.le_refl _) _
    have hY2 : (w2.alloc (.cells #[.slice a2 E.ad.length ca2, .slice d2 E.dl.length cd2, .int .i64 E.lg, .int .i64 E.nx, .int .i64 E.la] 25)).heap[w2.heap.size]? = some (.cells #[.slice a2 E.ad.length ca2, .slice d2 E.dl.length cd2, .int .i64 E.lg, .int .i64 E.nx, .int .i64 E.la] 25 (0, 0)) := World.heap_alloc_new _ _
    have hXa := (ha2.block w1.heap.size (by omega)).trans hX2
    have hb12a := hb12.trans (ha2.mono hb12.size)
    clear hX1 ha1 hb2
    obtain ⟨x0, x1, x2, x3, x4⟩ := five_cells hX2
    have hl12 : w1.heap.size < w2.heap.size := by omega
    go_wp2_with fail
    refine (HEq.out a2 ca2 d2 cd2 a1 ca1 d1 cd1 _ (hT2.below ha2).lie (hI2.below ha2).lie (hT12.below ha2).lie (hI12.below ha2).lie).mono ?_
    rintro r w3 ⟨rfl, hb3⟩
    have hb23 : Below w2.heap.size w2 w3 := ha2.trans (hb3.mono ha2.size)
    have hX3 := (hb3.block w1.heap.size (by simp; omega)).trans hXa
    have hY3 := (hb3.block w2.heap.size (by simp)).trans hY2
    have hT3 := hT2.below hb23
    have hI3 := hI2.below hb23
    have hb13 : Below w1.heap.size w1 w3 := hb12.trans (hb23.mono (by omega))
    have hl13 := heap_lt hX3
    have hl23 := heap_lt hY3
    clear x0 x1 x2 x3 x4 hX2 hXa hY2 ha2 hb3 hT2 hI2 hT12 hI12 hb12 hb12a hb23
    obtain ⟨y0, y1, y2, y3, y4⟩ := five_cells hY3
    go_wp2_with fail
    refine (HMk.out a2 ca2 d2 cd2 (w1.heap.size + 1) _ hT3 hI3 (by omega)).mono ?_
    rintro r w4 ⟨rfl, hT4, hI4, hb4, hk4⟩
    have hY4 := hk4 _ _ hY3 (fun cs fz h => by simp at h) (fun cs fz h => by simp at h)
    have hX4 := (hb4.block w1.heap.size (by omega)).trans hX3
    have hb14 : Below w1.heap.size w1 w4 := hb13.trans (hb4.mono (by omega))
    have hl24 := heap_lt hY4
    have hl14 := heap_lt hX4
    clear y0 y1 y2 y3 y4 hX3 hY3 hT3 hI3 hb4 hk4 hb13
    obtain ⟨y0, y1, y2, y3, y4⟩ := five_cells hY4
    go_wp2_with fail
    refine (HHl.out a2 ca2 d2 cd2 _ hT4.lie hI4.lie).mono ?_
    rintro r w5 ⟨rfl, hb5⟩
    have hX5 := (hb5.block w1.heap.size hl14).trans hX4
    have hb15 : Below w1.heap.size w1 w5 := hb14.trans (hb5.mono (by omega))
    have hl15 := heap_lt hX5
    clear y0 y1 y2 y3 y4 hY4 hX4 hT4 hI4 hb5 hb14
    go_wp2_with fail
    refine (HIm.out _).mono ?_
    rintro r w6 ⟨a6, ca6, d6, cd6, rfl, hT6, hI6, hb6⟩
    have hX6 := (hb6.block w1.heap.size hl15).trans hX5
    have hb16 : Below w1.heap.size w1 w6 := hb15.trans (hb6.mono (by omega))
    have ha6 : Below w6.heap.size w6 (w6.alloc (.cells #[.slice a6 E.ad.length ca6, .slice d6 E.dl.length cd6, .int .i64 E.lg, .int .i64 E.nx, .int .i64 E.la] 25)) := (Below.refl _ _).alloc (Nat.le_refl _) _
    have hl16 := heap_lt hX6
    have hb16a := hb16.trans (ha6.mono (by omega))
    have hT16 := hT1.below hb16a
    have hI16 := hI1.below hb16a
    clear hX5 hb15 hb6
    obtain ⟨x0, x1, x2, x3, x4⟩ := five_cells hX6
    go_wp2_with fail
    refine (HEq.out a6 ca6 d6 cd6 a1 ca1 d1 cd1 _ (hT6.below ha6).lie (hI6.below ha6).lie hT16.lie hI16.lie).mono ?_
    rintro r w7 ⟨rfl, hb7⟩
    have hb17 : Below w.heap.size w w7 := (hb1.trans (hb16a.mono hb1.size)).trans (hb7.mono (by have := hb1.size; have := hb16a.size; omega))
    go_wp2_with fail
    go_ret
    exact ⟨rfl, hb17⟩

theorem own : ownKnob Try.prog.godebug = none := by kernel_rfl

set_option maxRecDepth 100000 in
theorem lifted (os : Os) (started : os.Started) (H : Type) (enc : TypeId × Value → H) :
    ReturnsInHanded {} Try.checked os 3 .any (Rows.fnExactDecodeEditSpec.pre6 enc Try.prog Try.f3 Rows.fnExactDecodeEditRow.domain false) (Rows.fnExactDecodeEditSpec.post enc Try.prog Try.f3 false true false false) := by
  refine returnsInHanded_of_change (C := Try.checked) own started (by kernel_rfl) Try.func3
    (ChangeSpec.witness6 (enc := enc) (C := Try.checked) false ⟨#[], #[.string ByteArray.empty], []⟩ 8 (by kernel_rfl) (by kernel_rfl) (by kernel_rfl) (by kernel_rfl)) ?_
  intro W base args ds gs before hval0 hW hcnd _
  have hval : ∀ (j : Nat) t v, Try.f3.params[j]? = some t → args[j]? = some v → Value.okWide Try.prog W .any base t v := hval0
  have hW' := hW
  obtain ⟨p, q, hA0, hV, rfl, hfz, hnd⟩ := hW
  have hA : DataW.TrodAll enc Try.prog W 0 (fun _ => true) true Try.f3.params.toList args.toList ds p := hA0
  rw [Try.params3] at hA hval
  obtain ⟨v0, d0, rfl, rfl, h0⟩ := trodAll_one hA
  obtain ⟨rfl, rfl⟩ := trodVars_none hV
  obtain ⟨s, rfl, rfl, rfl, hs⟩ := open_string Try.underlying9 (hval 0 9 v0 rfl rfl) h0
  clear hA0 hval0
  refine (lawDecEd_any s W hs).mono fun e W' ⟨he, bel⟩ => ?_
  subst he
  exact ⟨_, rfl, _, _, _, [], _, [], hW', trodAll_mk1 (shut_bool Try.underlying4 _), (trodAll_mk1 (shut_string Try.underlying9 hs)), rfl, bel.frame _, fun h => by cases h⟩

theorem over : Rows.fnExactDecodeEditRow.holds Try.pinned (OpenSpec.ofChange Rows.fnExactDecodeEditSpec) :=
  OpenClaim.holds_of_wide 3 Try.f3 rfl rfl rfl rfl rfl rfl rfl ⟨rfl, rfl, rfl, rfl, rfl⟩ rfl rfl rfl rfl rfl (by kernel_rfl) Try.func3 (by kernel_rfl)
    (of_decide_eq_true (by kernel_rfl)) (by unfold Func.isWrapper; first | (rw [if_pos (by decide +kernel)]; kernel_rfl) | (rw [if_neg (by decide +kernel)]; exact ⟨rfl, rfl⟩))
    (fun os started H enc _ => lifted os started H enc)

theorem fnExactDecodeEdit_holds : Rows.FnExactDecodeEditSaid := over
#print axioms fnExactDecodeEdit_holds
end Go.Proofs.Ytnlmebpajjiomae
