
import Derived.Test.YtfbmplecmaebbacDoorFlX
import Derived.Test.YtfbmplecmaebbacDoorRlM
namespace Go.Proofs.YtfbmplecmaebbacDoor
open Go.RowKit Go.Maps
set_option linter.unusedVariables false
set_option linter.unusedSimpArgs false

/-- Frames of kind k, one behind the other; how many pages they have; what is read of them from page p on. -/
def framesL (k : Nat) (Ps : List (List UInt8)) : List UInt8 := Ps.flatMap (frB k)
def pgs (Ps : List (List UInt8)) : Nat := (Ps.map fun P => pagesN (8 + P.length)).sum
def mkF (k : Nat) : Nat → List (List UInt8) → List Fr
  | _, [] => []
  | p, P :: r => some (k, P, p + pagesN (8 + P.length)) :: mkF k (p + pagesN (8 + P.length)) r
theorem framesL_cons (k : Nat) (P : List UInt8) (r : List (List UInt8)) : framesL k (P :: r) = frB k P ++ framesL k r := rfl
theorem pgs_cons (P : List UInt8) (r : List (List UInt8)) : pgs (P :: r) = pagesN (8 + P.length) + pgs r := by simp [pgs]
theorem framesL_len (k : Nat) (Ps : List (List UInt8)) : (framesL k Ps).length = 64 * pgs Ps := by
  induction Ps with
  | nil => rfl
  | cons P r ih => rw [framesL_cons, List.length_append, frB_len, ih, pgs_cons]; omega
theorem pages_pos (n : Nat) : 1 ≤ pagesN (8 + n) := by unfold pagesN; omega

/-- What is found at a page where a frame stands. -/
theorem rf_stands {s : ByteArray} {A T P : List UInt8} {k p : Nat} (hs : s.data.toList = A ++ (frB k P ++ T)) (hA : A.length = p * 64) (hk : kindOk (k : Int) = true) (hk2 : k < 256) (hP : P.length ≤ 1048576) : rf s p = some (k, P, p + pagesN (8 + P.length)) := by
  have h1 := pages_pos P.length
  have hl : s.size = A.length + (64 * pagesN (8 + P.length) + T.length) := by rw [← len_data, hs, List.length_append, List.length_append, frB_len]
  refine rf_at (by omega) ?_
  rw [hs]
  have h := lies_of A T P k
  rw [hA] at h
  exact rfAt_lies h hk hk2 hP
/-- Frames are read one after the other. -/
theorem frs_frames {s : ByteArray} {k : Nat} (hk : kindOk (k : Int) = true) (hk2 : k < 256) : ∀ (Ps : List (List UInt8)) (A T : List UInt8) (p : Nat), s.data.toList = A ++ (framesL k Ps ++ T) → A.length = p * 64 → (∀ P ∈ Ps, P.length ≤ 1048576) → frs s p = mkF k p Ps ++ frs s (p + pgs Ps) := by
  intro Ps
  induction Ps with
  | nil => intro A T p _ _ _; simp [mkF, pgs]
  | cons P r ih =>
    intro A T p hs hA hP
    have h1 := pages_pos P.length
    rw [framesL_cons, List.append_assoc] at hs
    have hr := rf_stands hs hA hk hk2 (hP P (by simp))
    have hl : s.size = A.length + (64 * pagesN (8 + P.length) + (framesL k r ++ T).length) := by rw [← len_data, hs, List.length_append, List.length_append, frB_len]
    have hn : nx s p = p + pagesN (8 + P.length) := by
      have := (nx_some (s := s) (p := p) (by rw [hr]; rfl)).1
      rw [this, hr]
      rfl
    have hs2 : s.data.toList = (A ++ frB k P) ++ (framesL k r ++ T) := by rw [hs, List.append_assoc]
    have hA2 : (A ++ frB k P).length = (p + pagesN (8 + P.length)) * 64 := by rw [List.length_append, frB_len, hA]; omega
    rw [frs_more (by omega), hr, hn, ih _ T _ hs2 hA2 (fun Q hQ => hP Q (by simp [hQ])), pgs_cons, Nat.add_assoc]
    rfl
theorem frs_skip {s : ByteArray} : ∀ (m p : Nat), (∀ i, i < m → rf s ((p + i : Nat) : Int) = none) → (p + m) * 64 ≤ s.size → frs s p = List.replicate m none ++ frs s (p + m) := by
  intro m
  induction m with
  | zero => intro p _ _; rfl
  | succ m ih =>
    intro p h hl
    have h0 := h 0 (by omega)
    rw [Nat.add_zero] at h0
    have hn : nx s p = p + 1 := nx_none (by rw [h0]; rfl)
    rw [frs_more (by omega), h0, hn, ih (p + 1) (fun i hi => by have := h (i + 1) (by omega); rw [show p + 1 + i = p + (i + 1) by omega]; exact this) (by omega), show p + 1 + m = p + (m + 1) by omega]
    rfl
theorem mkF_gd (k : Nat) : ∀ (Ps : List (List UInt8)) (p : Nat), ∀ f ∈ mkF k p Ps, gd (k : Int) f = true := by
  intro Ps
  induction Ps with
  | nil => intro p f hf; cases hf
  | cons P r ih =>
    intro p f hf
    rcases List.mem_cons.1 hf with rfl | h
    · simp [gd, rfK]
    · exact ih _ f h
theorem mkF_texts (k : Nat) : ∀ (Ps : List (List UInt8)) (p : Nat), (mkF k p Ps).map rfB = Ps.map fun P => (⟨P.toArray⟩ : ByteArray) := by
  intro Ps
  induction Ps with
  | nil => intro p; rfl
  | cons P r ih => intro p; simp only [mkF, List.map_cons, ih]; rfl
theorem mkF_last (k : Nat) : ∀ (Ps : List (List UInt8)) (p : Nat), Ps ≠ [] → lastN (mkF k p Ps) = p + pgs Ps := by
  intro Ps
  induction Ps with
  | nil => intro p h; exact absurd rfl h
  | cons P r ih =>
    intro p _
    rw [pgs_cons]
    cases r with
    | nil => simp [mkF, lastN, rfN, pgs]
    | cons Q r2 =>
      have := ih (p + pagesN (8 + P.length)) (by simp)
      rw [← Nat.add_assoc, ← this]
      simp only [mkF, lastN, List.getLast?_cons_cons]
/-- ReadLog of whole frames, and of frames with what is none behind them. -/
theorem rl_frames {s : ByteArray} {k : Nat} {Ps : List (List UInt8)} {rest : List Fr} (h : frs s 0 = mkF k 0 Ps ++ rest) (hr : rest = [] ∨ ∃ r, rest = none :: r) : rlL s k = mkF k 0 Ps := by
  rcases hr with rfl | ⟨r, rfl⟩
  · exact rl_done (by rw [h, List.append_nil]) (mkF_gd k Ps 0)
  · exact rl_stop h (mkF_gd k Ps 0) rfl
/-- A frame of which bytes are lacking at its end is none. -/
theorem rf_cut {s : ByteArray} {A P : List UInt8} {k p m : Nat} (hs : s.data.toList = A ++ (frB k P).take m) (hA : A.length = p * 64) (hm : m < 64 * pagesN (8 + P.length)) (hP : P.length ≤ 1048576) : rf s p = none := by
  have h1 := pages_pos P.length
  have hl : s.size = p * 64 + m := by rw [← len_data, hs, List.length_append, hA, List.length_take, frB_len]; omega
  by_cases h64 : 64 ≤ m
  · refine rf_at (by omega) (rfAt_none ?_)
    have hlie := lies_of A [] P k
    rw [hA, List.append_nil] at hlie
    have hcb : ∀ i, i < 4 → cb s.data.toList (p * 64) (0 + i) = (four P.length).getD i 0 := fun i hi => by
      have hc := hlie.cell i (by omega)
      rw [body_get, if_pos hi] at hc
      rw [Nat.zero_add, ← hc]
      unfold cb
      have e : i / 63 = 0 := by omega
      have e2 : i % 63 = i := by omega
      rw [e, e2, hs, show p * 64 + 1 + 0 * 64 + i = p * 64 + (1 + i) by omega, getD_skip _ _ hA, getD_skip _ _ hA]
      simp only [List.getD]
      rw [List.getElem?_take_of_lt (by omega)]
    have hw := word_of (L := s.data.toList) (F := p * 64) (j := 0) (n := P.length) (by omega) hcb
    rw [hw]
    rintro ⟨-, -, h3, -⟩
    rw [len_data] at h3
    omega
  · unfold rf
    rw [if_neg]
    rintro ⟨-, h⟩
    simp only [Int.toNat_natCast] at h
    omega
/-- A page that begins with what is no kind is none. -/
theorem rf_nokind {s : ByteArray} {p : Nat} {x : UInt8} (h : s.data.toList.getD (p * 64) 0 = x) (hx : kindOk ((x.toNat : Nat) : Int) = false) : rf s p = none := by
  by_cases hl : p * 64 + 64 ≤ s.size
  · refine rf_at hl (rfAt_none ?_)
    rw [h]
    rintro ⟨h1, -⟩
    rw [hx] at h1
    cases h1
  · unfold rf
    rw [if_neg]
    rintro ⟨-, h⟩
    simp only [Int.toNat_natCast] at h
    omega
end Go.Proofs.YtfbmplecmaebbacDoor
