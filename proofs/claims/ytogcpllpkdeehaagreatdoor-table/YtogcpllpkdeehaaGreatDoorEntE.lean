import Derived.Test.YtogcpllpkdeehaaGreatDoorDecK

namespace Go.Proofs.YtogcpllpkdeehaaGreatDoor
open Go.RowKit Go.Maps
set_option linter.unusedVariables false
set_option linter.unusedSimpArgs false

theorem Bld.lt {B b : Nat} {l : List UInt8} {w : World} (h : Bld B b l w) : b < w.heap.size := by
  have key : ∀ {p : Value}, Lib.BuilderAtF 44 5 B b p (bc l) w → b < w.heap.size := fun {p} h => by
    obtain ⟨hB, v, hbk, _⟩ := h
    by_cases hlt : b < w.heap.size
    · exact hlt
    · rw [Array.getElem?_eq_none (by omega)] at hbk; cases hbk
  exact h.elim key key

set_option maxRecDepth 100000 in
set_option maxHeartbeats 1000000 in
theorem putSized_any (B b : Nat) (l : List UInt8) (s : ByteArray) (w : World) (h : Bld B b l w) (hs : s.size ≤ 1048576) (hlen : l.length ≤ 70368744177664) (hBw : B ≤ w.heap.size) :
    Calls Tryz.prog 44 #[.pointer (some ⟨b, 0, none⟩), .string s] w fun e w' => e = .returned (.tuple #[]) ∧ Bld B b (l ++ (vb s.size ++ s.data.toList)) w' ∧ Below B w w' ∧
      (∀ k o, w.heap[k]? = some o → k ≠ b → (∀ c fz, o ≠ .cells c 5 fz) → w'.heap[k]? = some o) := by
  have HV : Hid ((vtext (s.size : Int)).data.toList = vb s.size) := by show _ = _; rw [vtext_in _ (by omega) (by omega)]; simp
  have hvs := vtext_size (s.size : Int)
  have hvl := vb_len s.size
  have hBb : b < w.heap.size := h.lt
  go_enter Tryz.func44, Tryz.ntmps44
  go_wp2_with fail
  refine (implPut_any _ _).mono ?_
  rintro e w1 ⟨rfl, hb1⟩
  have h1 := h.below hb1
  have hs1 := hb1.size
  go_wp2_with fail
  refine (writeString_any B b l _ w1 h1 (by omega) (by omega)).mono ?_
  rintro e w2 ⟨rfl, h2, hb2, hk2⟩
  rw [HV.out] at h2
  have hs2 := hb2.size
  go_wp2_with fail
  refine (writeString_any B b _ s w2 h2 (by rw [List.length_append]; omega) (by omega)).mono ?_
  rintro e w3 ⟨rfl, h3, hb3, hk3⟩
  rw [List.append_assoc] at h3
  go_wp2_with fail
  go_end0
  refine ⟨rfl, h3, ((hb1.mono hBw).trans hb2).trans hb3, fun k o hk hkb ho => ?_⟩
  have hlt : k < w.heap.size := by
    by_cases hlt : k < w.heap.size
    · exact hlt
    · rw [Array.getElem?_eq_none (by omega)] at hk; cases hk
  exact hk3 k o (hk2 k o ((hb1.block k hlt).trans hk) (by simpa using hkb) ho) (by simpa using hkb) ho
end Go.Proofs.YtogcpllpkdeehaaGreatDoor
