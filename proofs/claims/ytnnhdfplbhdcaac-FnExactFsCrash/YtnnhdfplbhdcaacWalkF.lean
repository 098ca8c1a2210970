
import Derived.Test.YtnnhdfplbhdcaacWalkE
namespace Go.Proofs.Ytnnhdfplbhdcaac
open Go.RowKit
set_option linter.unusedVariables false
set_option linter.unusedSimpArgs false

theorem bne_self (n : ByteArray) : (n.toList != n.toList) = false := by simp

set_option maxHeartbeats 400000 in
theorem eqFile_same (f : Fl) (w : World) :
    Calls Try.prog 35 #[f.agg, f.agg] w fun e w' => e = .returned (.bool true) ∧ Below w.heap.size w w' := by
  obtain ⟨n, d, s⟩ := f
  go_enter Try.func35, Try.ntmps35
  go_wp2
  go_ret
  exact ⟨rfl, ((Below.refl _ _).alloc (Nat.le_refl _) _).alloc (by simp) _⟩

set_option maxHeartbeats 400000 in
theorem eqFileS_same (a c : Option Addr) (cap cap' : Nat) (xs : List Fl) (w : World) (hx : Lie w a xs) (hy : Lie w c xs) (hlen : xs.length ≤ 1048576) :
    Calls Try.prog 20 #[.slice a xs.length cap, .slice c xs.length cap'] w fun e w' => e = .returned (.bool true) ∧ Below w.heap.size w w' := by
  go_enter Try.func20, Try.ntmps20
  go_wp2
  go_loopw [5] (fun i wr => ∃ k : Nat, k ≤ xs.length ∧ i = .int .i64 k ∧ Below w.heap.size w wr) (fun i _ => xs.length - (intOf i).toNat)
  case atStart => exact ⟨0, Nat.zero_le _, rfl, Below.refl _ _⟩
  case round =>
    obtain ⟨k, hk, rfl, hb⟩ := hrel
    by_cases hlt : k < xs.length
    · obtain ⟨b, off, rfl, hbl, c0, c1, c2⟩ := (hx.below hb).at hlt
      obtain ⟨b', off', rfl, hbl', d0, d1, d2⟩ := (hy.below hb).at hlt
      generalize xs.getD k fl0 = f at *
      have i1 : (k : Int) < (xs.length : Int) := by omega
      go_wp2_with fail
      go_region_held3 (fun w' => w'.cell? ⟨b, off + k * 3, none⟩ = some (.string f.nm) ∧ w'.cell? ⟨b, off + k * 3 + 1, none⟩ = some (.string f.dt) ∧ w'.cell? ⟨b, off + k * 3 + 2, none⟩ = some (.int .i64 f.sy) ∧ w'.cell? ⟨b', off' + k * 3, none⟩ = some (.string f.nm) ∧ w'.cell? ⟨b', off' + k * 3 + 1, none⟩ = some (.string f.dt) ∧ w'.cell? ⟨b', off' + k * 3 + 2, none⟩ = some (.int .i64 f.sy)) (simp [go_sem, *]) 
        (first | (go_at_call 35; refine (eqFile_same f _).mono ?_; rintro e w' ⟨rfl, hb1⟩; have k0 := (hb1.cell (p := ⟨b, _, none⟩) hbl).trans c0; have k1 := (hb1.cell (p := ⟨b, _, none⟩) hbl).trans c1; have k2 := (hb1.cell (p := ⟨b, _, none⟩) hbl).trans c2; have l0 := (hb1.cell (p := ⟨b', _, none⟩) hbl').trans d0; have l1 := (hb1.cell (p := ⟨b', _, none⟩) hbl').trans d1; have l2 := (hb1.cell (p := ⟨b', _, none⟩) hbl').trans d2; have hb2 := hb.drew.trans (hb1.mono hb.drew.size)))
      all_goals go_wp2
      all_goals exact ⟨⟨k + 1, by omega, by go_num, hb2⟩, by simp [intOf]; omega⟩
    · go_wp2
      go_ret
      exact ⟨rfl, hb⟩

set_option maxHeartbeats 400000 in
theorem eqFS_same (a c : Option Addr) (cap cap' : Nat) (xs : List Fl) (q fu : Int) (w : World) (hx : Lie w a xs) (hy : Lie w c xs) (hlen : xs.length ≤ 1048576) :
    Calls Try.prog 9 #[.agg #[.slice a xs.length cap, .int .i64 q, .int .i64 fu], .agg #[.slice c xs.length cap', .int .i64 q, .int .i64 fu]] w fun e w' => e = .returned (.bool true) ∧ Below w.heap.size w w' := by
  have hb0 : Below w.heap.size w ((w.alloc (.cells #[.slice a xs.length cap, .int .i64 q, .int .i64 fu] 29)).alloc (.cells #[.slice c xs.length cap', .int .i64 q, .int .i64 fu] 29)) := ((Below.refl _ _).alloc (Nat.le_refl _) _).alloc (by simp) _
  go_enter Try.func9, Try.ntmps9
  go_wp2_with fail
  refine (eqFileS_same a c cap cap' xs _ (hx.below hb0) (hy.below hb0) hlen).mono ?_
  rintro e w1 ⟨rfl, hb1⟩
  have hbb : Below w.heap.size w w1 := hb0.trans (hb1.mono hb0.size)
  obtain ⟨hc, hz⟩ := bcell hb1
  clear hx hy hb1 hb0
  go_wp2
  go_ret
  exact ⟨rfl, hbb⟩
end Go.Proofs.Ytnnhdfplbhdcaac
