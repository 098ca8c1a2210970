
import Derived.Test.YtibfoimapnnnkacDoorTbH
namespace Go.Proofs.YtibfoimapnnnkacDoor
open Go.RowKit Go.Maps
set_option linter.unusedVariables false
set_option linter.unusedSimpArgs false

/-- string(b) of a row of bytes that the call owns, be it empty. -/
theorem conv_rowE {w : World} {B : Nat} {v : Value} {l : List UInt8} (h : w.ownsRow B 5 1 v l.length (bc l)) :
    (convert 29 9 v).run Tryd.prog w = .ok (.string ⟨l.toArray⟩) w := by
  obtain ⟨h1, h2⟩ := h
  rcases h2 with ⟨rfl, h0⟩ | ⟨g, cap, cur, rfl, hg, hb, hl, hm, hsz, htk⟩
  · obtain rfl := List.length_eq_zero_iff.1 h0
    rw [run_convert_bytes_string w 29 9 5 _ _ _ Tryd.underlying29 Tryd.underlying5 Tryd.underlying9]
    unfold Conv.bytesToString
    simp [go_sem, Sem.run_pure]
    rfl
  · refine run_convert_bytes_back w 29 9 5 _ cap l Tryd.underlying29 Tryd.underlying5 Tryd.underlying9 (fun j hj => ?_)
    rw [Go.WideShapes.add_plain]
    have e1 : (cur.toList.take (l.length * 1))[j]? = (bc l)[j]? := by rw [htk]
    rw [List.getElem?_take_of_lt (by omega)] at e1
    simp only [World.cell?, hb]
    have e2 : cur[0 + j]? = cur.toList[j]? := by simp
    rw [e2, e1]
    simp [hj]
theorem text_app (a b : List UInt8) : (⟨a.toArray⟩ : ByteArray) ++ ⟨b.toArray⟩ = ⟨(a ++ b).toArray⟩ := by
  apply ByteArray.ext
  rw [ByteArray.data_append]
  simp
theorem idx_eq (xs : List En) (h : nbE xs.length ≤ 37500) : frT 73 (vtext (nbE xs.length : Nat) ++ ⟨(tab xs (nbE xs.length)).2.toArray⟩) = idxT xs := by
  rw [vtext_in _ (by omega) (by omega), Int.toNat_natCast, text_app]
  rfl
theorem frT_le (k : Int) (p : ByteArray) : (frT k p).size ≤ 1100000 := by
  by_cases h : kindOk k = true ∧ p.size ≤ 1048576
  · rw [frT_size h.1 h.2]
    unfold pagesN
    omega
  · rw [frT_out h]
    show (0 : Nat) ≤ _
    omega
theorem tabX_none {xs : List En} (h : (idxT xs).size = 0) : tabX xs = ⟨#[]⟩ := by unfold tabX; rw [if_pos h]
theorem tabX_some {xs : List En} (h : (idxT xs).size ≠ 0) (hs : (tab xs (nbE xs.length)).1.length / 64 ≤ 72057594037927935) : tabX xs = ⟨((tab xs (nbE xs.length)).1 ++ (idxT xs).data.toList ++ (frT 70 (vtext ((tab xs (nbE xs.length)).1.length / 64 : Nat))).data.toList).toArray⟩ := by
  unfold tabX
  rw [if_neg h]
  congr 4
  rw [vtext_in _ (by omega) (by omega), Int.toNat_natCast]
end Go.Proofs.YtibfoimapnnnkacDoor
