import Derived.Test.YtogcpllpkdeehaaGreatDoorRlU
namespace Go.Proofs.YtogcpllpkdeehaaGreatDoor
set_option linter.unusedVariables false
set_option linter.unusedSimpArgs false

theorem getD_left {a b : List UInt8} {i : Nat} (h : i < a.length) : (a ++ b).getD i 0 = a.getD i 0 := by
  simp only [List.getD]
  rw [List.getElem?_append_left h]
theorem getD_right {a b : List UInt8} {i : Nat} (h : a.length ≤ i) : (a ++ b).getD i 0 = b.getD (i - a.length) 0 := by
  simp only [List.getD]
  rw [List.getElem?_append_right h]
theorem hdr_len (k i : Nat) : (hdr k i).length = if i % 63 = 0 then 1 else 0 := by
  unfold hdr
  split
  · subst_vars; rfl
  · split <;> rfl
theorem gby_at (k : Nat) (f : Nat → UInt8) : ∀ (N i : Nat), i < N → (gby k f N).getD (i + i / 63 + 1) 0 = f i := by
  intro N
  induction N with
  | zero => intro i hi; omega
  | succ N ih =>
    intro i hi
    simp only [gby]
    have hl := gby_len k f N
    have hh := hdr_len k N
    unfold pagesN at hl
    by_cases hiN : i = N
    · subst hiN
      have e : (gby k f i ++ hdr k i).length = i + i / 63 + 1 := by
        rw [List.length_append, hl, hh]
        split <;> omega
      rw [getD_right (by omega), e, Nat.sub_self]
      rfl
    · rw [getD_left (by rw [List.length_append]; omega), getD_left (by omega)]
      exact ih i (by omega)
theorem gby_hd (k : Nat) (f : Nat → UInt8) : ∀ (N j : Nat), 63 * j < N → (gby k f N).getD (64 * j) 0 = if j = 0 then UInt8.ofNat k else 99 := by
  intro N
  induction N with
  | zero => intro j hj; omega
  | succ N ih =>
    intro j hj
    simp only [gby]
    have hl := gby_len k f N
    unfold pagesN at hl
    by_cases hjN : 63 * j = N
    · have hh := hdr_len k N
      rw [if_pos (by omega)] at hh
      rw [getD_left (by rw [List.length_append]; omega), getD_right (by omega)]
      rw [show 64 * j - (gby k f N).length = 0 by omega]
      unfold hdr
      by_cases hj0 : j = 0
      · rw [if_pos hj0, if_pos (by omega)]; rfl
      · rw [if_neg hj0, if_neg (by omega), if_pos (by omega)]; rfl
    · rw [getD_left (by rw [List.length_append]; omega), getD_left (by omega)]
      exact ih j (by omega)

/-- How a frame lies in a text: byte by byte. -/
structure Lies (L : List UInt8) (F k : Nat) (P : List UInt8) : Prop where
  len : F + 64 * pagesN (8 + P.length) ≤ L.length
  hd : ∀ j, j < pagesN (8 + P.length) → L.getD (F + j * 64) 0 = if j = 0 then UInt8.ofNat k else 99
  cell : ∀ i, i < 63 * pagesN (8 + P.length) → cb L F i = (body k P).getD i 0
theorem frB_lenR (k : Nat) (P : List UInt8) : (frB k P).length = 64 * pagesN (8 + P.length) := by
  unfold frB
  rw [body_len, fby_len]
  unfold pagesN
  omega
theorem lies_of (A T P : List UInt8) (k : Nat) : Lies (A ++ (frB k P ++ T)) A.length k P := by
  have hl := frB_lenR k P
  have hg : frB k P = gby k (fun i => (body k P).getD i 0) (63 * pagesN (8 + P.length)) := by
    unfold frB
    rw [body_len, fby_gby]
  refine ⟨?_, fun j hj => ?_, fun i hi => ?_⟩
  · simp only [List.length_append]
    omega
  · rw [getD_right (by omega), show A.length + j * 64 - A.length = 64 * j by omega, getD_left (by omega), hg]
    exact gby_hd _ _ _ j (by omega)
  · have hi64 : i + i / 63 + 1 < 64 * pagesN (8 + P.length) := by omega
    unfold cb
    rw [getD_right (by omega), show A.length + 1 + i / 63 * 64 + i % 63 - A.length = i + i / 63 + 1 by omega, getD_left (by omega), hg]
    exact gby_at _ _ _ i hi

theorem word_of {L : List UInt8} {F j n : Nat} (hn : n < 4294967296) (h : ∀ i, i < 4 → cb L F (j + i) = (four n).getD i 0) : word L F j = n := by
  unfold word
  refine (four_eq hn _ _ _ _ ?_).symm
  rw [show cb L F j = (four n).getD 0 0 from h 0 (by omega), h 1 (by omega), h 2 (by omega), h 3 (by omega)]
  rfl
theorem Lies.word0 {L : List UInt8} {F k : Nat} {P : List UInt8} (h : Lies L F k P) (hP : P.length ≤ 1048576) : word L F 0 = P.length := by
  have hp := pages_ge (8 + P.length)
  refine word_of (by omega) fun i hi => ?_
  rw [Nat.zero_add, h.cell i (by omega), body_get, if_pos hi]
theorem Lies.word4 {L : List UInt8} {F k : Nat} {P : List UInt8} (h : Lies L F k P) : word L F 4 = crc (UInt8.ofNat k :: P) := by
  have hp := pages_ge (8 + P.length)
  refine word_of (crc_lt _) fun i hi => ?_
  rw [h.cell (4 + i) (by omega), body_get, if_neg (by omega), if_pos (by omega), show 4 + i - 4 = i by omega]
theorem pay_of {L : List UInt8} {F : Nat} {P : List UInt8} (h : ∀ i, i < P.length → cb L F (8 + i) = P.getD i 0) : pay L F P.length = P := by
  apply List.ext_getElem?
  intro i
  simp only [pay, List.getElem?_map]
  by_cases hi : i < P.length
  · rw [List.getElem?_range hi]
    simp only [Option.map_some]
    rw [h i hi, List.getElem?_eq_getElem hi, List.getD_eq_getElem?_getD, List.getElem?_eq_getElem hi]
    rfl
  · rw [List.getElem?_eq_none (by simp; omega), List.getElem?_eq_none (by omega)]
    rfl
theorem Lies.pay {L : List UInt8} {F k : Nat} {P : List UInt8} (h : Lies L F k P) : pay L F P.length = P := by
  have hp := pages_ge (8 + P.length)
  refine pay_of fun i hi => ?_
  rw [h.cell (8 + i) (by omega), body_get, if_neg (by omega), if_neg (by omega), show 8 + i - 8 = i by omega]
theorem Lies.zero {L : List UInt8} {F k : Nat} {P : List UInt8} (h : Lies L F k P) (i : Nat) (h1 : 8 + P.length ≤ i) (h2 : i < 63 * pagesN (8 + P.length)) : cb L F i = 0 := by
  rw [h.cell i h2, body_get, if_neg (by omega), if_neg (by omega), List.getD_eq_getElem?_getD, List.getElem?_eq_none (by omega)]
  rfl
/-- A frame is read back. -/
theorem rfAt_lies {L : List UInt8} {p k : Nat} {P : List UInt8} (h : Lies L (p * 64) k P) (hk : kindOk (k : Int) = true) (hk2 : k < 256) (hP : P.length ≤ 1048576) : rfAt L p = some (k, P, p + pagesN (8 + P.length)) := by
  have hp : 1 ≤ pagesN (8 + P.length) := by unfold pagesN; omega
  have h0 : L.getD (p * 64) 0 = UInt8.ofNat k := by have := h.hd 0 (by omega); simpa using this
  have hk8 : (UInt8.ofNat k).toNat = k := by simp [UInt8.toNat_ofNat']; omega
  unfold rfAt
  rw [h0, hk8, h.word0 hP, h.pay, if_pos]
  refine ⟨hk, hP, h.len, (marks_iff _ _ _).2 fun i h1 h2 => ?_, h.word4, (zeros_iff _ _ _ _).2 fun i h1 h2 => h.zero i h1 h2⟩
  have := h.hd i h2
  rw [if_neg (by omega)] at this
  exact this
end Go.Proofs.YtogcpllpkdeehaaGreatDoor
namespace Go.Proofs.YtogcpllpkdeehaaGreatDoor
open Go.RowKit Go.Maps
set_option linter.unusedVariables false
set_option linter.unusedSimpArgs false

theorem getD_skip (A B : List UInt8) {n : Nat} (h : A.length = n) {x : Nat} : (A ++ B).getD (n + x) 0 = B.getD x 0 := by
  rw [getD_right (by omega), h, Nat.add_sub_cancel_left]
theorem data_back (p : ByteArray) : (⟨p.data.toList.toArray⟩ : ByteArray) = p := by cases p; simp
theorem rf_at {s : ByteArray} {pg : Nat} {r : Option (Nat × List UInt8 × Nat)} (h : pg * 64 + 64 ≤ s.size) (hr : rfAt s.data.toList pg = r) : rf s pg = r := by
  unfold rf
  rw [if_pos ⟨by omega, by simpa using h⟩]
  simpa using hr
end Go.Proofs.YtogcpllpkdeehaaGreatDoor
namespace Go.Proofs.YtogcpllpkdeehaaGreatDoor
open Go.RowKit Go.Maps
set_option linter.unusedVariables false
set_option linter.unusedSimpArgs false

/-- Frames of kind k, one behind the other; how many pages they have; what is read of them from page p on. -/
def framesL (k : Nat) (Ps : List (List UInt8)) : List UInt8 := Ps.flatMap (frB k)
def pgs (Ps : List (List UInt8)) : Nat := (Ps.map fun P => pagesN (8 + P.length)).sum
def mkF (k : Nat) : Nat → List (List UInt8) → List Fr
  | _, [] => []
  | p, P :: r => some (k, P, p + pagesN (8 + P.length)) :: mkF k (p + pagesN (8 + P.length)) r
theorem framesL_cons (k : Nat) (P : List UInt8) (r : List (List UInt8)) : framesL k (P :: r) = frB k P ++ framesL k r := rfl
theorem pgs_cons (P : List UInt8) (r : List (List UInt8)) : pgs (P :: r) = pagesN (8 + P.length) + pgs r := by simp [pgs]
theorem framesL_len (k : Nat) (Ps : List (List UInt8)) : (framesL k Ps).length = 64 * pgs Ps := by
  induction Ps with
  | nil => rfl
  | cons P r ih => rw [framesL_cons, List.length_append, frB_lenR, ih, pgs_cons]; omega
theorem pages_pos (n : Nat) : 1 ≤ pagesN (8 + n) := by unfold pagesN; omega

/-- What is found at a page where a frame stands. -/
theorem rf_stands {s : ByteArray} {A T P : List UInt8} {k p : Nat} (hs : s.data.toList = A ++ (frB k P ++ T)) (hA : A.length = p * 64) (hk : kindOk (k : Int) = true) (hk2 : k < 256) (hP : P.length ≤ 1048576) : rf s p = some (k, P, p + pagesN (8 + P.length)) := by
  have h1 := pages_pos P.length
  have hl : s.size = A.length + (64 * pagesN (8 + P.length) + T.length) := by rw [← len_data, hs, List.length_append, List.length_append, frB_lenR]
  refine rf_at (by omega) ?_
  rw [hs]
  have h := lies_of A T P k
  rw [hA] at h
  exact rfAt_lies h hk hk2 hP
/-- Frames are read one after the other. -/
theorem frs_frames {s : ByteArray} {k : Nat} (hk : kindOk (k : Int) = true) (hk2 : k < 256) : ∀ (Ps : List (List UInt8)) (A T : List UInt8) (p : Nat), s.data.toList = A ++ (framesL k Ps ++ T) → A.length = p * 64 → (∀ P ∈ Ps, P.length ≤ 1048576) → frs s p = mkF k p Ps ++ frs s (p + pgs Ps) := by
  intro Ps
  induction Ps with
  | nil => intro A T p _ _ _; simp [mkF, pgs]
  | cons P r ih =>
    intro A T p hs hA hP
    have h1 := pages_pos P.length
    rw [framesL_cons, List.append_assoc] at hs
    have hr := rf_stands hs hA hk hk2 (hP P (by simp))
    have hl : s.size = A.length + (64 * pagesN (8 + P.length) + (framesL k r ++ T).length) := by rw [← len_data, hs, List.length_append, List.length_append, frB_lenR]
    have hn : nx s p = p + pagesN (8 + P.length) := by
      have := (nx_some (s := s) (p := p) (by rw [hr]; rfl)).1
      rw [this, hr]
      rfl
    have hs2 : s.data.toList = (A ++ frB k P) ++ (framesL k r ++ T) := by rw [hs, List.append_assoc]
    have hA2 : (A ++ frB k P).length = (p + pagesN (8 + P.length)) * 64 := by rw [List.length_append, frB_lenR, hA]; omega
    rw [frs_more (by omega), hr, hn, ih _ T _ hs2 hA2 (fun Q hQ => hP Q (by simp [hQ])), pgs_cons, Nat.add_assoc]
    rfl
theorem frs_skip {s : ByteArray} : ∀ (m p : Nat), (∀ i, i < m → rf s ((p + i : Nat) : Int) = none) → (p + m) * 64 ≤ s.size → frs s p = List.replicate m none ++ frs s (p + m) := by
  intro m
  induction m with
  | zero => intro p _ _; rfl
  | succ m ih =>
    intro p h hl
    have h0 := h 0 (by omega)
    rw [Nat.add_zero] at h0
    have hn : nx s p = p + 1 := nx_none (by rw [h0]; rfl)
    rw [frs_more (by omega), h0, hn, ih (p + 1) (fun i hi => by have := h (i + 1) (by omega); rw [show p + 1 + i = p + (i + 1) by omega]; exact this) (by omega), show p + 1 + m = p + (m + 1) by omega]
    rfl
theorem mkF_gd (k : Nat) : ∀ (Ps : List (List UInt8)) (p : Nat), ∀ f ∈ mkF k p Ps, gd (k : Int) f = true := by
  intro Ps
  induction Ps with
  | nil => intro p f hf; cases hf
  | cons P r ih =>
    intro p f hf
    rcases List.mem_cons.1 hf with rfl | h
    · simp [gd, rfK]
    · exact ih _ f h
theorem mkF_texts (k : Nat) : ∀ (Ps : List (List UInt8)) (p : Nat), (mkF k p Ps).map rfB = Ps.map fun P => (⟨P.toArray⟩ : ByteArray) := by
  intro Ps
  induction Ps with
  | nil => intro p; rfl
  | cons P r ih => intro p; simp only [mkF, List.map_cons, ih]; rfl
theorem mkF_last (k : Nat) : ∀ (Ps : List (List UInt8)) (p : Nat), Ps ≠ [] → lastN (mkF k p Ps) = p + pgs Ps := by
  intro Ps
  induction Ps with
  | nil => intro p h; exact absurd rfl h
  | cons P r ih =>
    intro p _
    rw [pgs_cons]
    cases r with
    | nil => simp [mkF, lastN, rfN, pgs]
    | cons Q r2 =>
      have := ih (p + pagesN (8 + P.length)) (by simp)
      rw [← Nat.add_assoc, ← this]
      simp only [mkF, lastN, List.getLast?_cons_cons]
/-- ReadLog of whole frames, and of frames with what is none behind them. -/
theorem rl_frames {s : ByteArray} {k : Nat} {Ps : List (List UInt8)} {rest : List Fr} (h : frs s 0 = mkF k 0 Ps ++ rest) (hr : rest = [] ∨ ∃ r, rest = none :: r) : rlL s k = mkF k 0 Ps := by
  rcases hr with rfl | ⟨r, rfl⟩
  · exact rl_done (by rw [h, List.append_nil]) (mkF_gd k Ps 0)
  · exact rl_stop h (mkF_gd k Ps 0) rfl
/-- A frame of which bytes are lacking at its end is none. -/
theorem rf_cut {s : ByteArray} {A P : List UInt8} {k p m : Nat} (hs : s.data.toList = A ++ (frB k P).take m) (hA : A.length = p * 64) (hm : m < 64 * pagesN (8 + P.length)) (hP : P.length ≤ 1048576) : rf s p = none := by
  have h1 := pages_pos P.length
  have hl : s.size = p * 64 + m := by rw [← len_data, hs, List.length_append, hA, List.length_take, frB_lenR]; omega
  by_cases h64 : 64 ≤ m
  · refine rf_at (by omega) (rfAt_none ?_)
    have hlie := lies_of A [] P k
    rw [hA, List.append_nil] at hlie
    have hcb : ∀ i, i < 4 → cb s.data.toList (p * 64) (0 + i) = (four P.length).getD i 0 := fun i hi => by
      have hc := hlie.cell i (by omega)
      rw [body_get, if_pos hi] at hc
      rw [Nat.zero_add, ← hc]
      unfold cb
      have e : i / 63 = 0 := by omega
      have e2 : i % 63 = i := by omega
      rw [e, e2, hs, show p * 64 + 1 + 0 * 64 + i = p * 64 + (1 + i) by omega, getD_skip _ _ hA, getD_skip _ _ hA]
      simp only [List.getD]
      rw [List.getElem?_take_of_lt (by omega)]
    have hw := word_of (L := s.data.toList) (F := p * 64) (j := 0) (n := P.length) (by omega) hcb
    rw [hw]
    rintro ⟨-, -, h3, -⟩
    rw [len_data] at h3
    omega
  · unfold rf
    rw [if_neg]
    rintro ⟨-, h⟩
    simp only [Int.toNat_natCast] at h
    omega
/-- A page that begins with what is no kind is none. -/
theorem rf_nokind {s : ByteArray} {p : Nat} {x : UInt8} (h : s.data.toList.getD (p * 64) 0 = x) (hx : kindOk ((x.toNat : Nat) : Int) = false) : rf s p = none := by
  by_cases hl : p * 64 + 64 ≤ s.size
  · refine rf_at hl (rfAt_none ?_)
    rw [h]
    rintro ⟨h1, -⟩
    rw [hx] at h1
    cases h1
  · unfold rf
    rw [if_neg]
    rintro ⟨-, h⟩
    simp only [Int.toNat_natCast] at h
    omega
end Go.Proofs.YtogcpllpkdeehaaGreatDoor
namespace Go.Proofs.YtogcpllpkdeehaaGreatDoor
open Go.RowKit Go.Maps
set_option linter.unusedVariables false
set_option linter.unusedSimpArgs false

theorem pgs_append (a b : List (List UInt8)) : pgs (a ++ b) = pgs a + pgs b := by simp [pgs]
theorem framesL_append (k : Nat) (a b : List (List UInt8)) : framesL k (a ++ b) = framesL k a ++ framesL k b := by simp [framesL]
/-- Whole frames. -/
theorem frs_whole {s : ByteArray} {k : Nat} {Ps : List (List UInt8)} (hs : s.data.toList = framesL k Ps) (hk : kindOk (k : Int) = true) (hk2 : k < 256) (hP : ∀ P ∈ Ps, P.length ≤ 1048576) : frs s 0 = mkF k 0 Ps := by
  have hl : s.size = 64 * pgs Ps := by rw [← len_data, hs, framesL_len]
  have h := frs_frames (s := s) hk hk2 Ps [] [] 0 (by simpa using hs) rfl hP
  rw [h, frs_end (by omega), List.append_nil]
/-- Cut at a byte: the whole ones among them. -/
theorem rl_cut {s : ByteArray} {k c : Nat} {P1 P2 : List (List UInt8)} (hs : s.data.toList = (framesL k (P1 ++ P2)).take c) (hk : kindOk (k : Int) = true) (hk2 : k < 256) (hP : ∀ P ∈ P1 ++ P2, P.length ≤ 1048576)
    (h1 : 64 * pgs P1 ≤ c) (h2 : ∀ Q r, P2 = Q :: r → c < 64 * (pgs P1 + pagesN (8 + Q.length))) (h3 : c ≤ 64 * pgs (P1 ++ P2)) : rlL s k = mkF k 0 P1 := by
  have hf1 := framesL_len k P1
  rw [framesL_append, List.take_append, List.take_of_length_le (by omega), hf1] at hs
  have h := frs_frames (s := s) hk hk2 P1 [] ((framesL k P2).take (c - 64 * pgs P1)) 0 (by simpa using hs) rfl (fun P hp => hP P (by simp [hp]))
  rw [Nat.zero_add] at h
  refine rl_frames h ?_
  have hl : s.size = 64 * pgs P1 + ((framesL k P2).take (c - 64 * pgs P1)).length := by rw [← len_data, hs, List.length_append, hf1]
  by_cases he : pgs P1 * 64 < s.size
  · have hrf : rf s (pgs P1) = none := by
      cases P2 with
      | nil => simp [framesL] at hl; omega
      | cons Q r =>
        have hc := h2 Q r rfl
        refine rf_cut (A := framesL k P1) (P := Q) (k := k) (m := c - 64 * pgs P1) ?_ (by omega) (by omega) (hP Q (by simp))
        rw [hs, framesL_cons, List.take_append_of_le_length (by rw [frB_lenR]; omega)]
    rw [frs_more he, hrf]
    exact .inr ⟨_, rfl⟩
  · exact .inl (frs_end he)
/-- The first byte of one frame is zero. -/
theorem frs_hurt {s : ByteArray} {k : Nat} {P1 P2 : List (List UInt8)} {P : List UInt8} (hs : s.data.toList = framesL k P1 ++ ((0 :: (frB k P).drop 1) ++ framesL k P2)) (hk : kindOk (k : Int) = true) (hk2 : k < 256) (hP : ∀ Q ∈ P1 ++ P2, Q.length ≤ 1048576) :
    frs s 0 = mkF k 0 P1 ++ (List.replicate (pagesN (8 + P.length)) none ++ mkF k (pgs P1 + pagesN (8 + P.length)) P2) := by
  have hm := pages_pos P.length
  have hf1 := framesL_len k P1
  have hfl := frB_lenR k P
  have hhl : (0 :: (frB k P).drop 1).length = 64 * pagesN (8 + P.length) := by rw [List.length_cons, List.length_drop]; omega
  have hl : s.size = 64 * pgs P1 + 64 * pagesN (8 + P.length) + 64 * pgs P2 := by rw [← len_data, hs, List.length_append, List.length_append, hf1, framesL_len, hhl]; omega
  have h := frs_frames (s := s) hk hk2 P1 [] _ 0 (by simpa using hs) rfl (fun Q hq => hP Q (by simp [hq]))
  rw [Nat.zero_add] at h
  rw [h, frs_skip (pagesN (8 + P.length)) (pgs P1) ?_ (by omega)]
  · have h2 := frs_frames (s := s) hk hk2 P2 (framesL k P1 ++ (0 :: (frB k P).drop 1)) [] (pgs P1 + pagesN (8 + P.length)) (by rw [hs]; simp) (by rw [List.length_append, hf1, hhl]; omega) (fun Q hq => hP Q (by simp [hq]))
    rw [h2, frs_end (by omega), List.append_nil]
  · intro i hi
    by_cases h0 : i = 0
    · subst h0
      refine rf_nokind (x := 0) ?_ (by decide)
      rw [hs, Nat.add_zero, show pgs P1 * 64 = pgs P1 * 64 + 0 by omega, getD_skip _ _ (by omega)]
      rfl
    · refine rf_nokind (x := 99) ?_ (by decide)
      have hlie := (lies_of [] [] P k).hd i hi
      rw [if_neg h0, List.nil_append, List.append_nil, List.length_nil, Nat.zero_add] at hlie
      rw [hs, show (pgs P1 + i) * 64 = pgs P1 * 64 + i * 64 by omega, getD_skip _ _ (by omega), getD_left (by rw [hhl]; omega), ← hlie]
      obtain ⟨m, hme⟩ : ∃ m, i * 64 = m + 1 := ⟨i * 64 - 1, by omega⟩
      rw [hme]
      show ((frB k P).drop 1).getD m 0 = _
      simp only [List.getD, List.getElem?_drop]
      rw [Nat.add_comm 1 m]
theorem gd_none (k : Int) : gd k none = false := rfl
theorem sv_hurt {s : ByteArray} {k : Nat} {P1 P2 : List (List UInt8)} {P : List UInt8} (hs : s.data.toList = framesL k P1 ++ ((0 :: (frB k P).drop 1) ++ framesL k P2)) (hk : kindOk (k : Int) = true) (hk2 : k < 256) (hP : ∀ Q ∈ P1 ++ P2, Q.length ≤ 1048576) :
    svL s k = (P1 ++ P2).map (fun P => (⟨P.toArray⟩ : ByteArray)) ∧ rlL s k = mkF k 0 P1 := by
  have h := frs_hurt hs hk hk2 hP
  have hm := pages_pos P.length
  obtain ⟨m, hme⟩ : ∃ m, pagesN (8 + P.length) = m + 1 := ⟨pagesN (8 + P.length) - 1, by omega⟩
  constructor
  · unfold svL
    have f1 : (mkF k 0 P1).filter (gd (k : Int)) = mkF k 0 P1 := List.filter_eq_self.2 (mkF_gd k P1 0)
    have f2 : (mkF k (pgs P1 + pagesN (8 + P.length)) P2).filter (gd (k : Int)) = mkF k (pgs P1 + pagesN (8 + P.length)) P2 := List.filter_eq_self.2 (mkF_gd k P2 _)
    have f3 : (List.replicate (pagesN (8 + P.length)) (none : Fr)).filter (gd (k : Int)) = [] := by
      rw [List.filter_eq_nil_iff]
      intro x hx
      rw [(List.mem_replicate.1 hx).2, gd_none]
      simp
    rw [h, List.filter_append, List.filter_append, f1, f2, f3, List.nil_append, List.map_append, mkF_texts, mkF_texts, List.map_append]
  · refine rl_frames h (.inr ?_)
    rw [hme, List.replicate_succ]
    exact ⟨_, rfl⟩
end Go.Proofs.YtogcpllpkdeehaaGreatDoor
