
import Derived.Test.YtnlmebpajjiomacEdC
import Derived.Test.YtnlmebpajjiomacBld
import Derived.Test.YtnlmebpajjiomacShelf
namespace Go.Proofs.Ytnlmebpajjiomac
open Go.RowKit Go.Maps
set_option linter.unusedVariables false
set_option linter.unusedSimpArgs false

theorem at_below {T : TypeId} {B b : Nat} {p : Value} {bs : List Value} {w w' : World} (h : Lib.BuilderAtF T 5 B b p bs w) (hb : Below w.heap.size w w') : Lib.BuilderAtF T 5 B b p bs w' := by
  obtain ⟨hB, v, hbk, ⟨h1, h2⟩, hne⟩ := h
  have lt : ∀ {g : Nat} {o : Obj}, w.heap[g]? = some o → g < w.heap.size := fun {g o} h => by
    by_cases hlt : g < w.heap.size
    · exact hlt
    · rw [Array.getElem?_eq_none (by omega)] at h; cases h
  refine ⟨hB, v, (hb.block b (lt hbk)).trans hbk, ⟨h1, ?_⟩, hne⟩
  rcases h2 with h2 | ⟨g, cap, cur, fz, rfl, hg, hgk, hrest⟩
  · exact .inl h2
  · exact .inr ⟨g, cap, cur, fz, rfl, hg, (hb.block g (lt hgk)).trans hgk, hrest⟩
theorem Bld.below {B b : Nat} {l : List UInt8} {w w' : World} (h : Bld B b l w) (hb : Below w.heap.size w w') : Bld B b l w' :=
  h.elim (fun x => .inl (at_below x hb)) (fun x => .inr (at_below x hb))
theorem Bld.lt {B b : Nat} {l : List UInt8} {w : World} (h : Bld B b l w) : b < w.heap.size := by
  have key : ∀ {p : Value}, Lib.BuilderAtF 85 5 B b p (bc l) w → b < w.heap.size := fun {p} h => by
    obtain ⟨hB, v, hbk, _⟩ := h
    by_cases hlt : b < w.heap.size
    · exact hlt
    · rw [Array.getElem?_eq_none (by omega)] at hbk; cases hbk
  exact h.elim key key

set_option maxRecDepth 100000 in
set_option maxHeartbeats 1000000 in
theorem putSized_any (B b : Nat) (l : List UInt8) (s : ByteArray) (w : World) (h : Bld B b l w) (hs : s.size ≤ 1048576) (hlen : l.length ≤ 70368744177664) (hBw : B ≤ w.heap.size) :
    Calls Try.prog 48 #[.pointer (some ⟨b, 0, none⟩), .string s] w fun e w' => e = .returned (.tuple #[]) ∧ Bld B b (l ++ (vb s.size ++ s.data.toList)) w' ∧ Below B w w' ∧
      (∀ k o, w.heap[k]? = some o → k ≠ b → (∀ c fz, o ≠ .cells c 5 fz) → w'.heap[k]? = some o) := by
  have HV : Hid ((vtext (s.size : Int)).data.toList = vb s.size) := by show _ = _; rw [vtext_in _ (by omega) (by omega)]; simp
  have hvs := vtext_size (s.size : Int)
  have hvl := vb_len s.size
  have hBb : b < w.heap.size := h.lt
  go_enter Try.func48, Try.ntmps48
  go_wp2_with fail
  refine (implPut_any _ _).mono ?_
  rintro e w1 ⟨rfl, hb1⟩
  have h1 := h.below hb1
  have hs1 := hb1.size
  go_wp2_with fail
  refine (writeString_any B b l _ w1 h1 (by omega) (by omega)).mono ?_
  rintro e w2 ⟨rfl, h2, hb2, hk2⟩
  rw [HV.out] at h2
  have hs2 := hb2.size
  go_wp2_with fail
  refine (writeString_any B b _ s w2 h2 (by rw [List.length_append]; omega) (by omega)).mono ?_
  rintro e w3 ⟨rfl, h3, hb3, hk3⟩
  rw [List.append_assoc] at h3
  go_wp2_with fail
  go_end0
  refine ⟨rfl, h3, ((hb1.mono hBw).trans hb2).trans hb3, fun k o hk hkb ho => ?_⟩
  have hlt : k < w.heap.size := by
    by_cases hlt : k < w.heap.size
    · exact hlt
    · rw [Array.getElem?_eq_none (by omega)] at hk; cases hk
  exact hk3 k o (hk2 k o ((hb1.block k hlt).trans hk) (by simpa using hkb) ho) (by simpa using hkb) ho
end Go.Proofs.Ytnlmebpajjiomac
