import Derived.Test.YtibfoimapnnnkaeGreatDoorRfT

namespace Go.Proofs.YtibfoimapnnnkaeGreatDoor
open Go.RowKit Go.Maps
set_option linter.unusedVariables false
set_option linter.unusedSimpArgs false

/-- The number that a text begins with. -/
def lead (s : ByteArray) : Nat := le4 (s.data.toList.getD 0 0) (s.data.toList.getD 1 0) (s.data.toList.getD 2 0) (s.data.toList.getD 3 0)

set_option maxRecDepth 100000 in
set_option maxHeartbeats 1000000 in
theorem getWord_any (s : ByteArray) (w : World) (h : 4 ≤ s.size) (hs : s.size ≤ 1048576) :
    Calls Tryz.prog 112 #[.string s] w fun e w' => e = .returned (.int .i64 (lead s : Nat)) ∧ Below w.heap.size w w' := by
  have y0 := s[0].toNat_lt
  have y1 := s[1].toNat_lt
  have y2 := s[2].toNat_lt
  have y3 := s[3].toNat_lt
  have p0 : (0 : Int) < s.size := by omega
  have p1 : (1 : Int) < s.size := by omega
  have p2 : (2 : Int) < s.size := by omega
  have p3 : (3 : Int) < s.size := by omega
  have q0 : 0 < s.size := by omega
  have q1 : 1 < s.size := by omega
  have q2 : 2 < s.size := by omega
  have q3 : 3 < s.size := by omega
  have J1 : Hid (bits .or .i64 (s[0].toNat : Int) (s[1].toNat * 256) = (s[0].toNat : Int) + s[1].toNat * 256) := i64_join 8 _ _ (by omega) (by omega) (by omega) (by omega) (by omega) (by omega)
  have J2 : Hid (bits .or .i64 ((s[0].toNat : Int) + s[1].toNat * 256) (s[2].toNat * 65536) = (s[0].toNat : Int) + s[1].toNat * 256 + s[2].toNat * 65536) := i64_join 16 _ _ (by omega) (by omega) (by omega) (by omega) (by omega) (by omega)
  have J3 : Hid (bits .or .i64 ((s[0].toNat : Int) + s[1].toNat * 256 + s[2].toNat * 65536) (s[3].toNat * 16777216) = (s[0].toNat : Int) + s[1].toNat * 256 + s[2].toNat * 65536 + s[3].toNat * 16777216) := i64_join 24 _ _ (by omega) (by omega) (by omega) (by omega) (by omega) (by omega)
  have HV : Hid ((s[0].toNat : Int) + s[1].toNat * 256 + s[2].toNat * 65536 + s[3].toNat * 16777216 = (lead s : Nat)) := by
    show _ = _
    simp only [lead, le4]
    rw [← byte_get s 0 (by omega), ← byte_get s 1 (by omega), ← byte_get s 2 (by omega), ← byte_get s 3 (by omega)]
    omega
  have HBl : Hid (∀ n, Below w.heap.size w (w.drewN n)) := fun n => ⟨rfl, rfl, rfl, Nat.le_refl _, fun _ _ => rfl⟩
  go_enter Tryz.func112, Tryz.ntmps112
  go_wp2_with fail
  go_quiet (fail)
  go_wp2_with fail
  go_ret
  refine ⟨?_, HBl.out _⟩
  show Ending.returned (.int .i64 (bits .or .i64 (bits .or .i64 (bits .or .i64 (s[0].toNat : Int) (s[1].toNat * 256)) (s[2].toNat * 65536)) (s[3].toNat * 16777216))) = _
  rw [J1.out, J2.out, J3.out, HV.out]
end Go.Proofs.YtibfoimapnnnkaeGreatDoor
