import Derived.Test.YtgpjhlhjdafjlaaGreatDoorRmI
import Derived.Lib.SliceRun
import Derived.Deep.RegionLawGrows
import Derived.Deep.RegionHeldLaw
namespace Go.Proofs.YtgpjhlhjdafjlaaGreatDoor
open Go.RowKit Go.Maps
set_option linter.unusedVariables false
set_option linter.unusedSimpArgs false

theorem Bld.lt {B b : Nat} {l : List UInt8} {w : World} (h : Bld B b l w) : b < w.heap.size := by
  have key : ∀ {p : Value}, Lib.BuilderAtF 71 5 B b p (bc l) w → b < w.heap.size := fun {p} h => by
    obtain ⟨hB, v, hbk, _⟩ := h
    by_cases hlt : b < w.heap.size
    · exact hlt
    · rw [Array.getElem?_eq_none (by omega)] at hbk; cases hbk
  exact h.elim key key

set_option maxRecDepth 100000 in
set_option maxHeartbeats 1000000 in
theorem putSized_any (B b : Nat) (l : List UInt8) (s : ByteArray) (w : World) (h : Bld B b l w) (hs : s.size ≤ 1048576) (hlen : l.length ≤ 70368744177664) (hBw : B ≤ w.heap.size) :
    Calls Tryz.prog 33 #[.pointer (some ⟨b, 0, none⟩), .string s] w fun e w' => e = .returned (.tuple #[]) ∧ Bld B b (l ++ (vb s.size ++ s.data.toList)) w' ∧ Below B w w' ∧
      (∀ k o, w.heap[k]? = some o → k ≠ b → (∀ c fz, o ≠ .cells c 5 fz) → w'.heap[k]? = some o) := by
  have HV : Hid ((vtext (s.size : Int)).data.toList = vb s.size) := by show _ = _; rw [vtext_in _ (by omega) (by omega)]; simp
  have hvs := vtext_size (s.size : Int)
  have hvl := vb_len s.size
  have hBb : b < w.heap.size := h.lt
  go_enter Tryz.func33, Tryz.ntmps33
  go_wp2_with fail
  refine (implPut_any _ _).mono ?_
  rintro e w1 ⟨rfl, hb1⟩
  have h1 := h.below hb1
  have hs1 := hb1.size
  go_wp2_with fail
  refine (writeString_any B b l _ w1 h1 (by omega) (by omega)).mono ?_
  rintro e w2 ⟨rfl, h2, hb2, hk2⟩
  rw [HV.out] at h2
  have hs2 := hb2.size
  go_wp2_with fail
  refine (writeString_any B b _ s w2 h2 (by rw [List.length_append]; omega) (by omega)).mono ?_
  rintro e w3 ⟨rfl, h3, hb3, hk3⟩
  rw [List.append_assoc] at h3
  go_wp2_with fail
  go_end0
  refine ⟨rfl, h3, ((hb1.mono hBw).trans hb2).trans hb3, fun k o hk hkb ho => ?_⟩
  have hlt : k < w.heap.size := by
    by_cases hlt : k < w.heap.size
    · exact hlt
    · rw [Array.getElem?_eq_none (by omega)] at hk; cases hk
  exact hk3 k o (hk2 k o ((hb1.block k hlt).trans hk) (by simpa using hkb) ho) (by simpa using hkb) ho
end Go.Proofs.YtgpjhlhjdafjlaaGreatDoor
namespace Go.Proofs.YtgpjhlhjdafjlaaGreatDoor
open Go.RowKit Go.Maps
set_option linter.unusedVariables false
set_option linter.unusedSimpArgs false

theorem ic_at {w : World} {g off : Nat} {ks : List Int} (h : LieI w (some ⟨g, off, none⟩) ks) : ∀ j u, (ic ks)[j]? = some u → w.cell? ((⟨g, off, none⟩ : Addr).add j) = some u := by
  intro j u hu
  rw [ic, List.getElem?_map] at hu
  cases hj : ks[j]? with
  | none => rw [hj] at hu; cases hu
  | some x =>
    rw [hj] at hu
    cases hu
    have hlt : j < ks.length := by
      by_cases hlt : j < ks.length
      · exact hlt
      · rw [List.getElem?_eq_none (by omega)] at hj; cases hj
    obtain ⟨b, o, e, -, hc⟩ := h.at hlt
    cases e
    rw [show ks.getD j 0 = x by simp [List.getD, hj]] at hc
    rw [Go.WideShapes.add_plain]
    exact hc
theorem ownsI_lie {w : World} {B n : Nat} {v : Value} {ks : List Int} (h : w.ownsRow B 3 1 v n (ic ks)) (hn : n = ks.length) : ∃ a cap, v = .slice a ks.length cap ∧ LieI w a ks := by
  obtain ⟨h1, h2⟩ := h
  rcases h2 with ⟨rfl, h0⟩ | ⟨g, cap, cur, rfl, hg, hbk, hrest⟩
  · have hk : ks = [] := List.length_eq_zero_iff.1 (by omega)
    subst hk
    exact ⟨none, 0, rfl, .inl rfl⟩
  · obtain ⟨hl, hm, hsz, htk⟩ := hrest
    subst hn
    refine ⟨some ⟨g, 0, none⟩, cap, rfl, .inr ⟨g, 0, rfl, heap_lt hbk, fun i hi => ?_⟩⟩
    have hcell : cur[i]? = (ic ks)[i]? := by
      have e1 : (cur.toList.take (ks.length * 1))[i]? = (ic ks)[i]? := by rw [htk]
      rw [List.getElem?_take_of_lt (by omega)] at e1
      simpa using e1
    have hv : (ic ks)[i]? = some (.int .i64 (ks.getD i 0)) := by simp [ic, List.getD, hi]
    rw [hv] at hcell
    simpa [World.cell?, hbk] using hcell

set_option maxRecDepth 100000 in
set_option maxHeartbeats 1000000 in
theorem cloneI_any (g off cap : Nat) (ks : List Int) (w : World) (hx : LieI w (some ⟨g, off, none⟩) ks) (hlen : ks.length ≤ 1048576) :
    Calls Tryz.prog 34 #[.slice (some ⟨g, off, none⟩) ks.length cap] w fun e w' => ∃ v, e = .returned v ∧ w'.ownsRow w.heap.size 3 1 v ks.length (ic ks) ∧ Below w.heap.size w w' := by
  obtain ⟨i0, hi, hz0, hz1, hz2⟩ := info_parts int_info
  have ho := ownsI_lit w w.heap.size (Nat.le_refl _)
  have hb0 : Below w.heap.size w (w.alloc (.cells #[] 3)) := (Below.refl _ _).alloc (Nat.le_refl _) _
  have HC := hd (ic_at (hx.below hb0))
  have HS : Hid (w.heap.size ≤ (w.alloc (.cells #[] 3)).heap.size) := hb0.size
  have hnil : ∀ w, (binOp .eql 33 (.slice (some ⟨g, off, none⟩) ks.length cap) (.slice none 0 0)).run Tryz.prog w = .ok (.bool false) w := fun w => Lib.run_eql_slice_nil w 33 3 _ _ _ _ _ Tryz.underlying33
  go_enter Tryz.func34, Tryz.ntmps34
  go_wp2_with (at_builtin; refine wpList_append_own _ rfl _ _ 33 rfl w.heap.size 3 i0 _ 1 8 Tryz.underlying33 hi hz0 hz1 hz2 rfl (by decide) _ _ _ rfl ho ⟨g, off, none⟩ ks.length cap (ic ks) rfl (by simp [ic]) HC.out (fun x hx => by simp [ic] at hx; obtain ⟨k, _, rfl⟩ := hx; rfl) (by unfold maxLen; omega) (by omega) HS.out ?_; intro v' w8 hown8 hgrow _)
  go_ret
  rw [Nat.zero_add] at hown8
  exact ⟨_, rfl, hown8, hb0.grown hgrow hb0.size (owns_base ho)⟩
end Go.Proofs.YtgpjhlhjdafjlaaGreatDoor
