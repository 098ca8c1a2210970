
import Derived.Test.YtnnhdfplbhdcaacBase
namespace Go.Proofs.Ytnnhdfplbhdcaac
open Go.RowKit
set_option linter.unusedVariables false
set_option linter.unusedSimpArgs false

set_option maxHeartbeats 400000 in
theorem szFile_any (f : Fl) (l : Int) (w : World) (h1 : f.nm.size ≤ maxLen) (h2 : f.dt.size ≤ maxLen) (l0 : 0 ≤ l) (l1 : l ≤ 1048576) :
    Calls Try.prog 23 #[f.agg, .int .i64 l] w fun e w' =>
      (∃ r : Int, e = .returned (.int .i64 r) ∧ r ≤ l ∧ (r = -1 ∨ (0 ≤ r ∧ r = l - f.nm.size - f.dt.size))) ∧ Below w.heap.size w w' := by
  unfold maxLen at h1 h2
  obtain ⟨n, d, s⟩ := f
  simp only at h1 h2
  go_enter Try.func23, Try.ntmps23
  go_wp2
  all_goals go_ret
  · exact ⟨⟨-1, rfl, by omega, .inl rfl⟩, (Below.refl _ _).alloc (Nat.le_refl _) _⟩
  · exact ⟨⟨-1, rfl, by omega, .inl rfl⟩, (Below.refl _ _).alloc (Nat.le_refl _) _⟩
  · exact ⟨⟨_, rfl, by omega, .inr ⟨by assumption, rfl⟩⟩, (Below.refl _ _).alloc (Nat.le_refl _) _⟩

set_option maxHeartbeats 400000 in
theorem toFile_any (f : Fl) (w : World) :
    Calls Try.prog 27 #[f.agg] w fun e w' => e = .returned f.agg ∧ Below w.heap.size w w' := by
  obtain ⟨n, d, s⟩ := f
  go_enter Try.func27, Try.ntmps27
  go_wp2
  exact bodyPost_ret (v := .agg #[.string n, .string d, .int .i64 s]) (by simp [results, Try.results27, go_sem]) rfl ⟨rfl, (((Below.refl _ _).alloc (Nat.le_refl _) _).alloc (by simp) _).alloc (by simp; omega) _⟩

set_option maxHeartbeats 400000 in
theorem szFileS_any (a : Option Addr) (cap : Nat) (xs : List Fl) (l : Int) (w : World) (hx : Lie w a xs) (hf : Fits xs) (hlen : xs.length ≤ maxLen) (l0 : 0 ≤ l) (l1 : l ≤ 1048576) :
    Calls Try.prog 14 #[.slice a xs.length cap, .int .i64 l] w fun e w' =>
      (∃ r : Int, e = .returned (.int .i64 r) ∧ r ≤ l ∧ (r = -1 ∨ (0 ≤ r ∧ r = l - xs.length - bulk xs))) ∧ Below w.heap.size w w' := by
  unfold maxLen at hlen
  by_cases hneg : l - (xs.length : Int) < 0
  · go_enter Try.func14, Try.ntmps14
    go_wp2
    go_ret
    exact ⟨⟨-1, rfl, by omega, .inl rfl⟩, Below.refl _ _⟩
  · go_enter Try.func14, Try.ntmps14
    go_wp2
    go_loopw [1, 5] (fun t i wr => ∃ k : Nat, k ≤ xs.length ∧ i = .int .i64 k ∧ 0 ≤ l - xs.length - bulk (xs.take k) ∧ t = .int .i64 (l - xs.length - bulk (xs.take k)) ∧ Below w.heap.size w wr) (fun _ i _ => xs.length - (intOf i).toNat)
    case atStart => exact ⟨0, Nat.zero_le _, rfl, by simp [bulk]; omega, by simp [bulk], Below.refl _ _⟩
    case round =>
      obtain ⟨k, hk, rfl, hge, rfl, hb⟩ := hrel
      by_cases hlt : k < xs.length
      · obtain ⟨b, off, rfl, hbl, c0, c1, c2⟩ := (hx.below hb).at hlt
        have hfk := hf.at hlt
        have HS : Hid (bulk (xs.take (k + 1)) = bulk (xs.take k) + ((xs.getD k fl0).nm.size + (xs.getD k fl0).dt.size)) := bulk_snoc xs k hlt
        generalize xs.getD k fl0 = f at *
        go_wp2_with fail
        refine (szFile_any f _ _ hfk.1 hfk.2 hge (by omega)).mono ?_
        rintro e w1 ⟨⟨r, rfl, hr1, hr2⟩, hb1⟩
        have hb2 : Below w.heap.size w w1 := hb.trans (hb1.mono hb.size)
        rcases hr2 with rfl | ⟨hr0, hr⟩
        · go_wp2
          go_ret
          exact ⟨⟨-1, rfl, by omega, .inl rfl⟩, hb2⟩
        · have HR : Hid (r = l - xs.length - bulk (xs.take k) - f.nm.size - f.dt.size) := hr
          clear hr
          have HE : Hid (l - xs.length - bulk (xs.take (k + 1)) = r) := by show _ = _; rw [HS.out, HR.out]; omega
          go_wp2
          go_roundw
          case rel => exact ⟨k + 1, by omega, by go_num, by rw [HE.out]; exact hr0, by rw [HE.out], hb2⟩
          case measure => simp [intOf]; omega
      · obtain rfl : k = xs.length := by omega
        rw [List.take_length] at hge ⊢
        go_wp2
        go_ret
        exact ⟨⟨_, rfl, by omega, .inr ⟨hge, rfl⟩⟩, hb⟩

set_option maxHeartbeats 400000 in
theorem szFS_any (a : Option Addr) (cap : Nat) (xs : List Fl) (q fu l : Int) (w : World) (hx : Lie w a xs) (hf : Fits xs) (hlen : xs.length ≤ maxLen) (l0 : 0 ≤ l) (l1 : l ≤ 1048576) :
    Calls Try.prog 4 #[.agg #[.slice a xs.length cap, .int .i64 q, .int .i64 fu], .int .i64 l] w fun e w' =>
      (∃ r : Int, e = .returned (.int .i64 r) ∧ r ≤ l ∧ (r = -1 ∨ (0 ≤ r ∧ r = l - xs.length - bulk xs))) ∧ Below w.heap.size w w' := by
  go_enter Try.func4, Try.ntmps4
  go_wp2_with fail
  have hb0 : Below w.heap.size w (w.alloc (.cells #[.slice a xs.length cap, .int .i64 q, .int .i64 fu] 24)) := (Below.refl _ _).alloc (Nat.le_refl _) _
  refine (szFileS_any a cap xs l _ (hx.below hb0) hf hlen l0 l1).mono ?_
  rintro e w1 ⟨⟨r, rfl, hr1, hr2⟩, hb1⟩
  have hb2 : Below w.heap.size w w1 := hb0.trans (hb1.mono hb0.size)
  rcases hr2 with rfl | ⟨hr0, hr⟩
  · go_wp2
    go_ret
    exact ⟨⟨-1, rfl, by omega, .inl rfl⟩, hb2⟩
  · have HR : Hid (r = l - xs.length - bulk xs) := hr
    clear hr
    go_wp2
    go_ret
    exact ⟨⟨r, rfl, by omega, .inr ⟨hr0, HR.out⟩⟩, hb2⟩
end Go.Proofs.Ytnnhdfplbhdcaac
