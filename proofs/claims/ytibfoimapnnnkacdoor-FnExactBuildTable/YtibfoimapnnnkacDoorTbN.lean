
import Derived.Test.YtibfoimapnnnkacDoorTbB
import Derived.Shelf.Strings.BuilderK
namespace Go.Proofs.YtibfoimapnnnkacDoor
open Go.RowKit Go.Maps
set_option linter.unusedVariables false
set_option linter.unusedSimpArgs false

theorem byte_cells : Tryd.prog.cellsOf 5 = 1 := by kernel_rfl
set_option maxHeartbeats 1000000 in
set_option maxRecDepth 100000 in
/-- String of a builder that holds a byte: it and its row are frozen; another builder is as it was. -/
theorem string_v (B b : Nat) (l : List UInt8) (v : Value) (w : World) (h : BldV B b l v w) (h0 : l ≠ []) :
    Calls Tryd.prog 35 #[.pointer (some ⟨b, 0, none⟩)] w fun e w' => e = .returned (.string ⟨l.toArray⟩) ∧ BldV B b l v w' ∧ Wr b v v w w' := by
  have hh := h
  obtain ⟨hB, p, hp, hbk, hown, hne⟩ := h
  have hl0 : l.length ≠ 0 := by simpa using h0
  obtain ⟨g, cap, cur, fz, rfl, hbg, hg, hfz, hnc, hcm, hcs, htake⟩ : ∃ g cap cur fz, v = .slice (some ⟨g, 0, none⟩) l.length cap ∧ B ≤ g ∧ w.heap[g]? = some (.cells cur 5 fz) ∧ fz.2 ≤ l.length * 1 ∧ l.length ≤ cap ∧ cap ≤ maxLen ∧ cur.size = cap * 1 ∧ cur.toList.take (l.length * 1) = bc l := by
    rcases hown.2 with ⟨_, hz⟩ | ⟨g, cap, cur, fz, hv, r⟩
    · exact absurd hz hl0
    · exact ⟨g, cap, cur, fz, hv, r⟩
  have hgb : g ≠ b := fun e => hne (by simp [Value.ownBlock, e])
  have c1 : w.drew.cell? ⟨b, 1, none⟩ = some (.slice (some ⟨g, 0, none⟩) l.length cap) := by
    have : w.drew.heap[b]? = some (.cells #[p, .slice (some ⟨g, 0, none⟩) l.length cap] 58 (0, 0)) := hbk
    rw [Lib.cell_of_heap this]; rfl
  have hSD : (Builtin.unsafeSliceData_ #[29] 94 #[.slice (some ⟨g, 0, none⟩) l.length cap]).run Tryd.prog w.drew = .ok (.pointer (some ⟨g, 0, none⟩)) w.drew :=
    Lib.run_unsafeSliceData_row _ _ _ _ _ _ (by omega)
  have hUS : (Builtin.unsafeString_ #[94, 3] 9 #[.pointer (some ⟨g, 0, none⟩), .int .i64 l.length]).run Tryd.prog w.drew = .ok (.string ⟨l.toArray⟩) (w.drew.freeze ⟨g, 0, none⟩ l.length) := by
    refine Lib.run_unsafeString_row w.drew 94 3 9 5 Tryd.underlying94 byte_cells g cur.size (by have hg' : w.drew.heap[g]? = some (.cells cur 5 fz) := hg; simp [World.shape?, hg']) l h0 (by omega) (by unfold maxLen at hcm; omega) ?_
    intro j x hx
    have := hown.cells (g := g) rfl j (.int .u8 x.toNat) (by simp [bc, hx])
    exact this
  have ho2 : w.ownsRowF B 5 1 (.slice (some ⟨g, 0, none⟩) l.length cap) (bc l).length (bc l) := by simpa using hown
  have hA0 : Lib.BuilderAtF 58 5 B b p (bc l) w := ⟨hB, _, hbk, ho2, hne⟩
  have hA := hA0.drew
  have hF := hA.froze (g := g) (cap := cap) (by simpa using c1)
  have hkb : (w.drew.freeze ⟨g, 0, none⟩ l.length).heap[b]? = w.heap[b]? := by
    unfold World.freeze
    rw [if_neg (by simpa using hl0)]
    simp only [Array.getElem?_modify]
    rw [if_neg hgb]
    rfl
  have HK : Hid (BldV B b l (.slice (some ⟨g, 0, none⟩) l.length cap) (w.drew.freeze ⟨g, 0, none⟩ l.length)) := by
    obtain ⟨_, v', hb', ho', hn'⟩ := hF
    simp only [List.length_map] at hb' ho'
    rw [hkb, hbk] at hb'
    cases hb'
    exact ⟨hB, p, hp, hkb.trans hbk, ho', hn'⟩
  have HW : Hid (Wr b (.slice (some ⟨g, 0, none⟩) l.length cap) (.slice (some ⟨g, 0, none⟩) l.length cap) w (w.drew.freeze ⟨g, 0, none⟩ l.length)) := by
    have hb2 := Lib.below_freeze (B := g) (Below.drew (Below.refl g w)) (p := ⟨g, 0, none⟩) (Nat.le_refl _) l.length
    refine ⟨hb2.os, hb2.tape, hb2.output, hb2.size, fun k hk _ hv => ?_, .inl rfl⟩
    unfold World.freeze
    rw [if_neg (by simpa using hl0)]
    simp only [Array.getElem?_modify]
    rw [if_neg (fun e => hv (by simp [Value.ownBlock, e]))]
    rfl
  have mixed : Tryd.prog.follows .mixedOrders = true := by kernel_rfl
  clear hF hA hA0 ho2 hh hkb htake hcs hcm hnc hfz hg hbg hne hown
  go_enter Tryd.func35, Tryd.ntmps35
  go_wp2
  go_region_o
  all_goals (go_wp2; go_ret; exact ⟨rfl, HK.out, HW.out⟩)
end Go.Proofs.YtibfoimapnnnkacDoor
