import Derived.Test.YtfbmplecmaebbaaDoorRfI
namespace Go.Proofs.YtfbmplecmaebbaaDoor
open Go.RowKit Go.Maps
set_option linter.unusedVariables false
set_option linter.unusedSimpArgs false

set_option maxRecDepth 100000 in
set_option maxHeartbeats 1000000 in
theorem eqFramed_same (o : Bool) (k : Int) (t : ByteArray) (n : Int) (w : World) :
    Calls Tryd.prog 12 #[.agg #[.bool o, .int .i64 k, .string t, .int .i64 n], .agg #[.bool o, .int .i64 k, .string t, .int .i64 n]] w fun e w' => e = .returned (.bool true) ∧ Below w.heap.size w w' := by
  go_enter Tryd.func12, Tryd.ntmps12
  go_wp2_with fail
  go_ret
  exact ⟨rfl, ((Below.refl _ _).alloc (Nat.le_refl _) _).alloc (by simp) _⟩

theorem rfV_shape (R : Option (Nat × List UInt8 × Nat)) : ∃ o k t n, rfV R = .agg #[.bool o, .int .i64 k, .string t, .int .i64 n] := by
  cases R with
  | none => exact ⟨_, _, _, _, rfl⟩
  | some q => exact ⟨_, _, _, _, rfl⟩

set_option maxRecDepth 100000 in
set_option maxHeartbeats 1000000 in
theorem lawRead_any (s : ByteArray) (page : Int) (w : World) (hs : s.size ≤ maxLen) (ht : Steps w) :
    Calls Tryd.prog 5 #[.string s, .int .i64 page] w fun e w' => e = .returned (.bool true) ∧ Below w.heap.size w w' := by
  unfold maxLen at hs
  obtain ⟨o, k, t, n, hV⟩ := rfV_shape (rf s page)
  have HV : Hid (rfV (rf s page) = .agg #[.bool o, .int .i64 k, .string t, .int .i64 n]) := hV
  clear hV
  by_cases hbig : (1048576 : Int) < s.size
  · go_enter Tryd.func5, Tryd.ntmps5
    go_wp2_with fail
    go_ret
    exact ⟨rfl, Below.refl _ _⟩
  · have hs' : s.size ≤ 1048576 := by omega
    go_enter Tryd.func5, Tryd.ntmps5
    go_wp2_with fail
    refine (specRead_any s page _ hs').mono ?_
    rintro e w1 ⟨rfl, hb1⟩
    rw [HV.out]
    have hx1 : (w1.alloc (.cells #[.bool o, .int .i64 k, .string t, .int .i64 n] 27)).heap[w1.heap.size]? = some (.cells #[.bool o, .int .i64 k, .string t, .int .i64 n] 27 (0, 0)) := World.heap_alloc_new _ _
    have hb1a : Below w.heap.size w (w1.alloc (.cells #[.bool o, .int .i64 k, .string t, .int .i64 n] 27)) := hb1.alloc hb1.size _
    go_wp2_with fail
    refine (implRead_any s page _ hs' (ht.below hb1a)).mono ?_
    rintro e w2 ⟨rfl, hb2⟩
    rw [HV.out]
    have hx2 := (hb2.block w1.heap.size (by simp)).trans hx1
    have hbw2 := hb1a.trans (hb2.mono hb1a.size)
    obtain ⟨⟨b0, b1, b2, b3⟩, -⟩ := four_cells hx2
    have hlt2 := heap_lt hx2
    have hb2a : Below w.heap.size w (w2.alloc (.cells #[.bool o, .int .i64 k, .string t, .int .i64 n] 27)) := hbw2.alloc hbw2.size _
    clear hx1 hb1a hb2
    go_wp2_with fail
    refine (eqFramed_same o k t n _).mono ?_
    rintro e w3 ⟨rfl, hb3⟩
    go_wp2_with fail
    go_ret
    exact ⟨rfl, hb2a.trans (hb3.mono hb2a.size)⟩
end Go.Proofs.YtfbmplecmaebbaaDoor
