import Derived.Test.YtgkhjjnhikbdaaaNwI

namespace Go.Proofs.Ytgkhjjnhikbdaaa
open Go.RowKit Go.Maps
set_option linter.unusedVariables false
set_option linter.unusedSimpArgs false

/-- How far a search by halves has come: up to i the answer is yes, from j on it is no. -/
structure BsI (f : Nat → Bool) (lo hi i j : Nat) : Prop where
  a : lo ≤ i
  b : i ≤ j
  c : j ≤ hi
  yes : ∀ k, lo ≤ k → k < i → f k = true
  no : ∀ k, j ≤ k → k < hi → f k = false
theorem BsI.start (f : Nat → Bool) {lo hi : Nat} (h : lo ≤ hi) : BsI f lo hi lo hi := ⟨Nat.le_refl _, h, Nat.le_refl _, fun k _ _ => by omega, fun k _ _ => by omega⟩
def Mono (f : Nat → Bool) (lo hi : Nat) : Prop := ∀ k l, lo ≤ k → k ≤ l → l < hi → f l = true → f k = true
theorem BsI.up {f : Nat → Bool} {lo hi i j h : Nat} (hm : Mono f lo hi) (k : BsI f lo hi i j) (h1 : i ≤ h) (h2 : h < j) (hf : f h = true) : BsI f lo hi (h + 1) j :=
  ⟨by have := k.a; omega, by omega, k.c, fun x hx hl => hm x h hx (by omega) (by have := k.c; omega) hf, k.no⟩
theorem BsI.down {f : Nat → Bool} {lo hi i j h : Nat} (hm : Mono f lo hi) (k : BsI f lo hi i j) (h1 : i ≤ h) (h2 : h < j) (hf : f h = false) : BsI f lo hi i h :=
  ⟨k.a, h1, by have := k.c; omega, k.yes, fun x hx hl => by
    cases hfx : f x with
    | false => rfl
    | true => have := hm h x (by have := k.a; omega) hx hl hfx; rw [hf] at this; cases this⟩
theorem getD_mem' {xs : List En} {k : Nat} (h : k < xs.length) : xs.getD k en0 ∈ xs := by
  have : xs.getD k en0 = xs[k] := by simp [List.getD, h]
  rw [this]; exact List.getElem_mem h
theorem mem_getD' {xs : List En} {x : En} (h : x ∈ xs) : ∃ k, k < xs.length ∧ xs.getD k en0 = x := by
  obtain ⟨k, hk, he⟩ := List.mem_iff_getElem.1 h
  exact ⟨k, hk, by simp [List.getD, hk, he]⟩
/-- An entry of the second of three rows. -/
theorem getD_mid (X A Y : List En) {k : Nat} (h1 : X.length ≤ k) (h2 : k < X.length + A.length) : (X ++ A ++ Y).getD k en0 = A.getD (k - X.length) en0 := by
  rw [List.getD_eq_getElem?_getD, List.getD_eq_getElem?_getD, List.append_assoc, List.getElem?_append_right h1, List.getElem?_append_left (by omega)]
theorem Srtd.get {xs : List En} (h : Srtd befE xs) {k l : Nat} (hkl : k ≤ l) (hl : l < xs.length) : befE (xs.getD l en0) (xs.getD k en0) = false := by
  by_cases he : k = l
  · subst he; exact befE_swo.irr _
  · have hk : k < xs.length := by omega
    have e1 : xs.getD k en0 = xs[k] := by simp [List.getD, hk]
    have e2 : xs.getD l en0 = xs[l] := by simp [List.getD, hl]
    rw [e1, e2]
    exact List.pairwise_iff_getElem.1 h k l hk hl (by omega)
/-- x is not after y, y before z. -/
theorem lt_of_le_lt {x y z : En} (h1 : befE y x = false) (h2 : befE y z = true) : befE x z = true := by
  cases h : befE x z with
  | true => rfl
  | false => have := befE_swo.neg y x z h1 h; rw [h2] at this; cases this
theorem lt_of_lt_le {x y z : En} (h1 : befE x y = true) (h2 : befE z y = false) : befE x z = true := by
  cases h : befE x z with
  | true => rfl
  | false => have := befE_swo.neg x z y h h2; rw [h1] at this; cases this
/-- The one entry ahead of a sorted row. -/
theorem one_mono {X B Y : List En} {e : En} (hB : Srtd befE B) : Mono (fun k => befE ((X ++ [e] ++ B ++ Y).getD k en0) e) (X.length + 1) (X.length + 1 + B.length) := fun k l h1 h2 h3 hf => by
  have ek := getD_mid (X ++ [e]) B Y (k := k) (by simp; omega) (by simp; omega)
  have el := getD_mid (X ++ [e]) B Y (k := l) (by simp; omega) (by simp; omega)
  simp only [ek, el] at hf ⊢
  have := hB.get (k := k - (X ++ [e]).length) (l := l - (X ++ [e]).length) (by omega) (by simp; omega)
  exact lt_of_le_lt this hf
theorem one_ok {X B Y : List En} {e : En} {i : Nat} (hB : Srtd befE B) (h : BsI (fun k => befE ((X ++ [e] ++ B ++ Y).getD k en0) e) (X.length + 1) (X.length + 1 + B.length) i i) :
    ∃ P Q, B = P ++ Q ∧ i = X.length + 1 + P.length ∧ P ++ e :: Q = srt befE ([e] ++ B) := by
  have ha := h.a
  have hc := h.c
  refine ⟨B.take (i - (X.length + 1)), B.drop (i - (X.length + 1)), (List.take_append_drop _ _).symm, by rw [List.length_take]; omega, ?_⟩
  obtain ⟨P, hP⟩ : ∃ P, P = B.take (i - (X.length + 1)) := ⟨_, rfl⟩
  obtain ⟨Q, hQ⟩ : ∃ Q, Q = B.drop (i - (X.length + 1)) := ⟨_, rfl⟩
  have hPQ : B = P ++ Q := by rw [hP, hQ]; exact (List.take_append_drop _ _).symm
  have hPl : P.length = i - (X.length + 1) := by rw [hP, List.length_take]; omega
  rw [← hP, ← hQ]
  have fP : ∀ p ∈ P, befE p e = true := fun p hp => by
    obtain ⟨k, hk, rfl⟩ := mem_getD' hp
    have := h.yes (X.length + 1 + k) (by omega) (by omega)
    rw [getD_mid (X ++ [e]) B Y (k := X.length + 1 + k) (by simp) (by simp; omega)] at this
    have e1 : X.length + 1 + k - (X ++ [e]).length = k := by simp
    rw [e1, hPQ] at this
    have e2 : (P ++ Q).getD k en0 = P.getD k en0 := by rw [List.getD_eq_getElem?_getD, List.getD_eq_getElem?_getD, List.getElem?_append_left hk]
    rw [e2] at this
    exact this
  have fQ : ∀ q ∈ Q, befE q e = false := fun q hq => by
    obtain ⟨k, hk, rfl⟩ := mem_getD' hq
    have hBl : B.length = P.length + Q.length := by rw [hPQ]; simp
    have := h.no (X.length + 1 + P.length + k) (by omega) (by omega)
    rw [getD_mid (X ++ [e]) B Y (k := X.length + 1 + P.length + k) (by simp; omega) (by simp; omega)] at this
    have e1 : X.length + 1 + P.length + k - (X ++ [e]).length = P.length + k := by simp; omega
    rw [e1, hPQ] at this
    have e2 : (P ++ Q).getD (P.length + k) en0 = Q.getD k en0 := by rw [List.getD_eq_getElem?_getD, List.getD_eq_getElem?_getD, List.getElem?_append_right (by omega)]; congr 2; omega
    rw [e2] at this
    exact this
  rw [hPQ] at hB ⊢
  obtain ⟨h1, h2, h3⟩ := List.pairwise_append.1 hB
  refine srt_of befE_swo (List.pairwise_append.2 ⟨h1, List.pairwise_cons.2 ⟨fQ, h2⟩, fun p hp x hx => ?_⟩) ?_
  · rcases List.mem_cons.1 hx with rfl | hx
    · exact befE_swo.asy (fP p hp)
    · exact h3 p hp x hx
  · have hS : Sm befE ([e] ++ P) (P ++ [e]) := Sm.blocks befE_swo (fun x hx y hy => by
      have : x = e := by simpa using hx
      subst this; exact fP y hy)
    have := Sm.app hS (Sm.refl Q)
    simpa using this
/-- The one entry behind a sorted row. -/
theorem last_mono {X A Y : List En} {e : En} (hA : Srtd befE A) : Mono (fun k => !befE e ((X ++ A ++ [e] ++ Y).getD k en0)) X.length (X.length + A.length) := fun k l h1 h2 h3 hf => by
  have ek := getD_mid X A ([e] ++ Y) (k := k) (by omega) (by omega)
  have el := getD_mid X A ([e] ++ Y) (k := l) (by omega) (by omega)
  have e0 : X ++ A ++ [e] ++ Y = X ++ A ++ ([e] ++ Y) := by simp
  rw [e0] at hf ⊢
  simp only [ek, el] at hf ⊢
  have := hA.get (k := k - X.length) (l := l - X.length) (by omega) (by omega)
  cases h : befE e (A.getD (k - X.length) en0) with
  | false => rfl
  | true => rw [lt_of_lt_le h this] at hf; exact hf
theorem last_ok {X A Y : List En} {e : En} {i : Nat} (hA : Srtd befE A) (h : BsI (fun k => !befE e ((X ++ A ++ [e] ++ Y).getD k en0)) X.length (X.length + A.length) i i) :
    ∃ P Q, A = P ++ Q ∧ i = X.length + P.length ∧ P ++ e :: Q = srt befE (A ++ [e]) := by
  have ha := h.a
  have hc := h.c
  refine ⟨A.take (i - X.length), A.drop (i - X.length), (List.take_append_drop _ _).symm, by rw [List.length_take]; omega, ?_⟩
  obtain ⟨P, hP⟩ : ∃ P, P = A.take (i - X.length) := ⟨_, rfl⟩
  obtain ⟨Q, hQ⟩ : ∃ Q, Q = A.drop (i - X.length) := ⟨_, rfl⟩
  have hPQ : A = P ++ Q := by rw [hP, hQ]; exact (List.take_append_drop _ _).symm
  have hPl : P.length = i - X.length := by rw [hP, List.length_take]; omega
  rw [← hP, ← hQ]
  have e0 : X ++ A ++ [e] ++ Y = X ++ A ++ ([e] ++ Y) := by simp
  rw [e0] at h
  have fP : ∀ p ∈ P, befE e p = false := fun p hp => by
    obtain ⟨k, hk, rfl⟩ := mem_getD' hp
    have := h.yes (X.length + k) (by omega) (by omega)
    rw [getD_mid X A ([e] ++ Y) (k := X.length + k) (by omega) (by omega)] at this
    have e1 : X.length + k - X.length = k := by omega
    rw [e1, hPQ] at this
    have e2 : (P ++ Q).getD k en0 = P.getD k en0 := by rw [List.getD_eq_getElem?_getD, List.getD_eq_getElem?_getD, List.getElem?_append_left hk]
    rw [e2] at this
    simpa using this
  have fQ : ∀ q ∈ Q, befE e q = true := fun q hq => by
    obtain ⟨k, hk, rfl⟩ := mem_getD' hq
    have hBl : A.length = P.length + Q.length := by rw [hPQ]; simp
    have := h.no (X.length + P.length + k) (by omega) (by omega)
    rw [getD_mid X A ([e] ++ Y) (k := X.length + P.length + k) (by omega) (by omega)] at this
    have e1 : X.length + P.length + k - X.length = P.length + k := by omega
    rw [e1, hPQ] at this
    have e2 : (P ++ Q).getD (P.length + k) en0 = Q.getD k en0 := by rw [List.getD_eq_getElem?_getD, List.getD_eq_getElem?_getD, List.getElem?_append_right (by omega)]; congr 2; omega
    rw [e2] at this
    simpa using this
  obtain ⟨k1, k2⟩ := ins_ok hA hPQ fQ (fun p hp => fP p (List.mem_of_getLast? hp))
  exact srt_of befE_swo k1 k2
/-- Two sorted rows, cut where the search ended, the middle ones turned round: what is left is to put each half in order. -/
theorem halves_ok {A1 A2 B1 B2 : List En} (hA : Srtd befE (A1 ++ A2)) (hB : Srtd befE (B1 ++ B2)) (h1 : ∀ x ∈ B1, ∀ y ∈ A2, befE x y = true) (h2 : ∀ x ∈ A1, ∀ y ∈ B2, befE y x = false) :
    srt befE (A1 ++ B1) ++ srt befE (A2 ++ B2) = srt befE ((A1 ++ A2) ++ (B1 ++ B2)) := by
  obtain ⟨a1, a2, a3⟩ := List.pairwise_append.1 hA
  obtain ⟨b1, b2, b3⟩ := List.pairwise_append.1 hB
  obtain ⟨s1, s2⟩ := srt_ok befE_swo (A1 ++ B1)
  obtain ⟨t1, t2⟩ := srt_ok befE_swo (A2 ++ B2)
  refine srt_of befE_swo (List.pairwise_append.2 ⟨s1, t1, fun x hx y hy => ?_⟩) ?_
  · have hx' := s2.symm.mem befE_swo hx
    have hy' := t2.symm.mem befE_swo hy
    rcases List.mem_append.1 hx' with hx' | hx' <;> rcases List.mem_append.1 hy' with hy' | hy'
    · exact a3 x hx' y hy'
    · exact h2 x hx' y hy'
    · exact befE_swo.asy (h1 x hx' y hy')
    · exact b3 x hx' y hy'
  · have hS : Sm befE (A2 ++ B1) (B1 ++ A2) := Sm.blocks befE_swo (fun x hx y hy => h1 y hy x hx)
    have h3 : Sm befE (A1 ++ (A2 ++ B1) ++ B2) (A1 ++ (B1 ++ A2) ++ B2) := Sm.app (Sm.app (Sm.refl _) hS) (Sm.refl _)
    have h4 := Sm.app s2 t2
    have h3' : Sm befE (A1 ++ A2 ++ (B1 ++ B2)) (A1 ++ B1 ++ (A2 ++ B2)) := by simpa using h3
    exact h3'.trans h4
theorem srt_self {A : List En} (h : Srtd befE A) : srt befE A = A := (srt_of befE_swo h (Sm.refl A)).symm
/-- What the search in the third case asks. -/
def f3 (zs : List En) (p c : Nat) : Bool := !befE (zs.getD (p - c) en0) (zs.getD c en0)
structure Sym (X A B Y : List En) (a m b mid st r : Nat) : Prop where
  ea : a = X.length
  em : m = X.length + A.length
  eb : b = X.length + A.length + B.length
  emid : mid = (a + b) / 2
  est : st = if mid < m then mid + m - b else a
  er : r = if mid < m then mid else m
theorem sym_mono {X A B Y : List En} {a m b mid st r : Nat} (h : Sym X A B Y a m b mid st r) (hA : Srtd befE A) (hB : Srtd befE B) (hA1 : 0 < A.length) (hB1 : 0 < B.length) : Mono (f3 (X ++ A ++ B ++ Y) (mid + m - 1)) st r := fun k l h1 h2 h3 hf => by
  obtain ⟨ea, em, eb, emid, est, er⟩ := h
  have hst : a ≤ st ∧ mid + m - st ≤ b := by rw [est]; split <;> omega
  have hr : r ≤ m ∧ m ≤ mid + m - r := by rw [er]; split <;> omega
  have gA : ∀ c, a ≤ c → c < m → (X ++ A ++ B ++ Y).getD c en0 = A.getD (c - X.length) en0 := fun c hc1 hc2 => by
    have := getD_mid X A (B ++ Y) (k := c) (by omega) (by omega)
    rw [← this]; congr 1; simp
  have gB : ∀ c, m ≤ c → c < b → (X ++ A ++ B ++ Y).getD c en0 = B.getD (c - (X ++ A).length) en0 := fun c hc1 hc2 => getD_mid (X ++ A) B Y (k := c) (by simp; omega) (by simp; omega)
  unfold f3 at hf ⊢
  rw [gA l (by omega) (by omega), gB _ (by omega) (by omega)] at hf
  rw [gA k (by omega) (by omega), gB _ (by omega) (by omega)]
  have k1 := hA.get (k := k - X.length) (l := l - X.length) (by omega) (by omega)
  have k2 := hB.get (k := mid + m - 1 - l - (X ++ A).length) (l := mid + m - 1 - k - (X ++ A).length) (by omega) (by simp; omega)
  cases hx : befE (B.getD (mid + m - 1 - k - (X ++ A).length) en0) (A.getD (k - X.length) en0) with
  | false => rfl
  | true => rw [lt_of_lt_le (lt_of_le_lt k2 hx) k1] at hf; exact hf
theorem sym_ok {X A B Y : List En} {a m b mid st r s : Nat} (h : Sym X A B Y a m b mid st r) (hA : Srtd befE A) (hB : Srtd befE B) (hA1 : 0 < A.length) (hB1 : 0 < B.length) (hs : BsI (f3 (X ++ A ++ B ++ Y) (mid + m - 1)) st r s s) :
    a ≤ s ∧ s ≤ m ∧ m ≤ mid + m - s ∧ mid + m - s ≤ b ∧ s ≤ mid ∧ mid ≤ mid + m - s ∧
    ∃ A1 A2 B1 B2, A = A1 ++ A2 ∧ B = B1 ++ B2 ∧ s = X.length + A1.length ∧ mid = X.length + A1.length + B1.length ∧ mid + m - s = X.length + A.length + B1.length ∧ Srtd befE A1 ∧ Srtd befE A2 ∧ Srtd befE B1 ∧ Srtd befE B2 ∧
      srt befE (A1 ++ B1) ++ srt befE (A2 ++ B2) = srt befE (A ++ B) := by
  obtain ⟨ea, em, eb, emid, est, er⟩ := h
  have hst : a ≤ st ∧ mid + m - st ≤ b := by rw [est]; split <;> omega
  have hr : r ≤ m ∧ m ≤ mid + m - r ∧ r ≤ mid := by rw [er]; split <;> omega
  have ha := hs.a
  have hc := hs.c
  refine ⟨by omega, by omega, by omega, by omega, by omega, by omega, A.take (s - a), A.drop (s - a), B.take (mid - s), B.drop (mid - s), (List.take_append_drop _ _).symm, (List.take_append_drop _ _).symm, ?_⟩
  obtain ⟨A1, hA1'⟩ : ∃ A1, A1 = A.take (s - a) := ⟨_, rfl⟩
  obtain ⟨A2, hA2'⟩ : ∃ A2, A2 = A.drop (s - a) := ⟨_, rfl⟩
  obtain ⟨B1, hB1'⟩ : ∃ B1, B1 = B.take (mid - s) := ⟨_, rfl⟩
  obtain ⟨B2, hB2'⟩ : ∃ B2, B2 = B.drop (mid - s) := ⟨_, rfl⟩
  have eA : A = A1 ++ A2 := by rw [hA1', hA2']; exact (List.take_append_drop _ _).symm
  have eB : B = B1 ++ B2 := by rw [hB1', hB2']; exact (List.take_append_drop _ _).symm
  have l1 : A1.length = s - a := by rw [hA1', List.length_take]; omega
  have l2 : B1.length = mid - s := by rw [hB1', List.length_take]; omega
  rw [← hA1', ← hA2', ← hB1', ← hB2']
  clear hA1' hA2' hB1' hB2'
  have lA : A.length = A1.length + A2.length := by rw [eA]; simp
  have lB : B.length = B1.length + B2.length := by rw [eB]; simp
  have sA := hA
  have sB := hB
  rw [eA] at sA
  rw [eB] at sB
  obtain ⟨a1, a2, a3⟩ := List.pairwise_append.1 sA
  obtain ⟨b1, b2, b3⟩ := List.pairwise_append.1 sB
  refine ⟨by omega, by omega, by omega, a1, a2, b1, b2, ?_⟩
  have gA : ∀ c, a ≤ c → c < m → (X ++ A ++ B ++ Y).getD c en0 = A.getD (c - X.length) en0 := fun c hc1 hc2 => by
    have := getD_mid X A (B ++ Y) (k := c) (by omega) (by omega)
    rw [← this]; congr 1; simp
  have gB : ∀ c, m ≤ c → c < b → (X ++ A ++ B ++ Y).getD c en0 = B.getD (c - (X ++ A).length) en0 := fun c hc1 hc2 => getD_mid (X ++ A) B Y (k := c) (by simp; omega) (by simp; omega)
  have lXA : (X ++ A).length = m := by rw [List.length_append]; omega
  rw [eA, eB]
  refine halves_ok sA sB (fun x hx y hy => ?_) (fun x hx y hy => ?_)
  · obtain ⟨u, hu, rfl⟩ := mem_getD' hx
    obtain ⟨v, hv, rfl⟩ := mem_getD' hy
    have hsr : s < r := by rw [er]; split <;> omega
    have hf := hs.no s (Nat.le_refl _) hsr
    unfold f3 at hf
    rw [gA s (by omega) (by omega), gB _ (by omega) (by omega)] at hf
    have hf' : befE (B.getD (mid + m - 1 - s - (X ++ A).length) en0) (A.getD (s - X.length) en0) = true := by simpa using hf
    have k1 := hB.get (k := u) (l := mid + m - 1 - s - (X ++ A).length) (by omega) (by omega)
    have k2 := hA.get (k := s - X.length) (l := A1.length + v) (by omega) (by omega)
    have e1 : B.getD u en0 = B1.getD u en0 := by rw [eB, List.getD_eq_getElem?_getD, List.getD_eq_getElem?_getD, List.getElem?_append_left hu]
    have e2 : A.getD (A1.length + v) en0 = A2.getD v en0 := by rw [eA, List.getD_eq_getElem?_getD, List.getD_eq_getElem?_getD, List.getElem?_append_right (by omega)]; congr 2; omega
    rw [e1] at k1
    rw [e2] at k2
    exact lt_of_lt_le (lt_of_le_lt k1 hf') k2
  · obtain ⟨u, hu, rfl⟩ := mem_getD' hx
    obtain ⟨v, hv, rfl⟩ := mem_getD' hy
    have hss : st < s := by rw [est]; split <;> omega
    have hf := hs.yes (s - 1) (by omega) (by omega)
    unfold f3 at hf
    rw [gA (s - 1) (by omega) (by omega), gB _ (by omega) (by omega)] at hf
    have hf' : befE (B.getD (mid + m - 1 - (s - 1) - (X ++ A).length) en0) (A.getD (s - 1 - X.length) en0) = false := by simpa using hf
    have k1 := hA.get (k := u) (l := s - 1 - X.length) (by omega) (by omega)
    have k2 := hB.get (k := mid + m - 1 - (s - 1) - (X ++ A).length) (l := B1.length + v) (by omega) (by omega)
    have e1 : A.getD u en0 = A1.getD u en0 := by rw [eA, List.getD_eq_getElem?_getD, List.getD_eq_getElem?_getD, List.getElem?_append_left hu]
    have e2 : B.getD (B1.length + v) en0 = B2.getD v en0 := by rw [eB, List.getD_eq_getElem?_getD, List.getD_eq_getElem?_getD, List.getElem?_append_right (by omega)]; congr 2; omega
    rw [e1] at k1
    rw [e2] at k2
    exact befE_swo.neg _ _ _ (befE_swo.neg _ _ _ k2 hf') k1
end Go.Proofs.Ytgkhjjnhikbdaaa
