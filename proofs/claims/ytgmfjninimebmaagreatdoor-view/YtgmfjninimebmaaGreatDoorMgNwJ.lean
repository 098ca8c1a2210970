import Derived.Test.YtgmfjninimebmaaGreatDoorMgNwF
namespace Go.Proofs.YtgmfjninimebmaaGreatDoor
open Go.RowKit Go.Maps
set_option linter.unusedVariables false
set_option linter.unusedSimpArgs false

/-- How far a search by halves has come: up to i the answer is yes, from j on it is no. -/
structure BsI (f : Nat → Bool) (lo hi i j : Nat) : Prop where
  a : lo ≤ i
  b : i ≤ j
  c : j ≤ hi
  yes : ∀ k, lo ≤ k → k < i → f k = true
  no : ∀ k, j ≤ k → k < hi → f k = false
theorem BsI.start (f : Nat → Bool) {lo hi : Nat} (h : lo ≤ hi) : BsI f lo hi lo hi := ⟨Nat.le_refl _, h, Nat.le_refl _, fun k _ _ => by omega, fun k _ _ => by omega⟩
def Mono (f : Nat → Bool) (lo hi : Nat) : Prop := ∀ k l, lo ≤ k → k ≤ l → l < hi → f l = true → f k = true
theorem BsI.up {f : Nat → Bool} {lo hi i j h : Nat} (hm : Mono f lo hi) (k : BsI f lo hi i j) (h1 : i ≤ h) (h2 : h < j) (hf : f h = true) : BsI f lo hi (h + 1) j :=
  ⟨by have := k.a; omega, by omega, k.c, fun x hx hl => hm x h hx (by omega) (by have := k.c; omega) hf, k.no⟩
theorem BsI.down {f : Nat → Bool} {lo hi i j h : Nat} (hm : Mono f lo hi) (k : BsI f lo hi i j) (h1 : i ≤ h) (h2 : h < j) (hf : f h = false) : BsI f lo hi i h :=
  ⟨k.a, h1, by have := k.c; omega, k.yes, fun x hx hl => by
    cases hfx : f x with
    | false => rfl
    | true => have := hm h x (by have := k.a; omega) hx hl hfx; rw [hf] at this; cases this⟩
theorem getD_mem' {xs : List En} {k : Nat} (h : k < xs.length) : xs.getD k en0 ∈ xs := by
  have : xs.getD k en0 = xs[k] := by simp [List.getD, h]
  rw [this]; exact List.getElem_mem h
theorem mem_getD' {xs : List En} {x : En} (h : x ∈ xs) : ∃ k, k < xs.length ∧ xs.getD k en0 = x := by
  obtain ⟨k, hk, he⟩ := List.mem_iff_getElem.1 h
  exact ⟨k, hk, by simp [List.getD, hk, he]⟩
/-- An entry of the second of three rows. -/
theorem getD_mid (X A Y : List En) {k : Nat} (h1 : X.length ≤ k) (h2 : k < X.length + A.length) : (X ++ A ++ Y).getD k en0 = A.getD (k - X.length) en0 := by
  rw [List.getD_eq_getElem?_getD, List.getD_eq_getElem?_getD, List.append_assoc, List.getElem?_append_right h1, List.getElem?_append_left (by omega)]
theorem Srtd.get {xs : List En} (h : Srtd befE xs) {k l : Nat} (hkl : k ≤ l) (hl : l < xs.length) : befE (xs.getD l en0) (xs.getD k en0) = false := by
  by_cases he : k = l
  · subst he; exact befE_swo.irr _
  · have hk : k < xs.length := by omega
    have e1 : xs.getD k en0 = xs[k] := by simp [List.getD, hk]
    have e2 : xs.getD l en0 = xs[l] := by simp [List.getD, hl]
    rw [e1, e2]
    exact List.pairwise_iff_getElem.1 h k l hk hl (by omega)
/-- x is not after y, y before z. -/
theorem lt_of_le_lt {x y z : En} (h1 : befE y x = false) (h2 : befE y z = true) : befE x z = true := by
  cases h : befE x z with
  | true => rfl
  | false => have := befE_swo.neg y x z h1 h; rw [h2] at this; cases this
theorem lt_of_lt_le {x y z : En} (h1 : befE x y = true) (h2 : befE z y = false) : befE x z = true := by
  cases h : befE x z with
  | true => rfl
  | false => have := befE_swo.neg x z y h h2; rw [h1] at this; cases this
/-- The one entry ahead of a sorted row. -/
theorem one_mono {X B Y : List En} {e : En} (hB : Srtd befE B) : Mono (fun k => befE ((X ++ [e] ++ B ++ Y).getD k en0) e) (X.length + 1) (X.length + 1 + B.length) := fun k l h1 h2 h3 hf => by
  have ek := getD_mid (X ++ [e]) B Y (k := k) (by simp; omega) (by simp; omega)
  have el := getD_mid (X ++ [e]) B Y (k := l) (by simp; omega) (by simp; omega)
  simp only [ek, el] at hf ⊢
  have := hB.get (k := k - (X ++ [e]).length) (l := l - (X ++ [e]).length) (by omega) (by simp; omega)
  exact lt_of_le_lt this hf
theorem one_ok {X B Y : List En} {e : En} {i : Nat} (hB : Srtd befE B) (h : BsI (fun k => befE ((X ++ [e] ++ B ++ Y).getD k en0) e) (X.length + 1) (X.length + 1 + B.length) i i) :
    ∃ P Q, B = P ++ Q ∧ i = X.length + 1 + P.length ∧ P ++ e :: Q = srt befE ([e] ++ B) := by
  have ha := h.a
  have hc := h.c
  refine ⟨B.take (i - (X.length + 1)), B.drop (i - (X.length + 1)), (List.take_append_drop _ _).symm, by rw [List.length_take]; omega, ?_⟩
  obtain ⟨P, hP⟩ : ∃ P, P = B.take (i - (X.length + 1)) := ⟨_, rfl⟩
  obtain ⟨Q, hQ⟩ : ∃ Q, Q = B.drop (i - (X.length + 1)) := ⟨_, rfl⟩
  have hPQ : B = P ++ Q := by rw [hP, hQ]; exact (List.take_append_drop _ _).symm
  have hPl : P.length = i - (X.length + 1) := by rw [hP, List.length_take]; omega
  rw [← hP, ← hQ]
  have fP : ∀ p ∈ P, befE p e = true := fun p hp => by
    obtain ⟨k, hk, rfl⟩ := mem_getD' hp
    have := h.yes (X.length + 1 + k) (by omega) (by omega)
    rw [getD_mid (X ++ [e]) B Y (k := X.length + 1 + k) (by simp) (by simp; omega)] at this
    have e1 : X.length + 1 + k - (X ++ [e]).length = k := by simp
    rw [e1, hPQ] at this
    have e2 : (P ++ Q).getD k en0 = P.getD k en0 := by rw [List.getD_eq_getElem?_getD, List.getD_eq_getElem?_getD, List.getElem?_append_left hk]
    rw [e2] at this
    exact this
  have fQ : ∀ q ∈ Q, befE q e = false := fun q hq => by
    obtain ⟨k, hk, rfl⟩ := mem_getD' hq
    have hBl : B.length = P.length + Q.length := by rw [hPQ]; simp
    have := h.no (X.length + 1 + P.length + k) (by omega) (by omega)
    rw [getD_mid (X ++ [e]) B Y (k := X.length + 1 + P.length + k) (by simp; omega) (by simp; omega)] at this
    have e1 : X.length + 1 + P.length + k - (X ++ [e]).length = P.length + k := by simp; omega
    rw [e1, hPQ] at this
    have e2 : (P ++ Q).getD (P.length + k) en0 = Q.getD k en0 := by rw [List.getD_eq_getElem?_getD, List.getD_eq_getElem?_getD, List.getElem?_append_right (by omega)]; congr 2; omega
    rw [e2] at this
    exact this
  rw [hPQ] at hB ⊢
  obtain ⟨h1, h2, h3⟩ := List.pairwise_append.1 hB
  refine srt_of befE_swo (List.pairwise_append.2 ⟨h1, List.pairwise_cons.2 ⟨fQ, h2⟩, fun p hp x hx => ?_⟩) ?_
  · rcases List.mem_cons.1 hx with rfl | hx
    · exact befE_swo.asy (fP p hp)
    · exact h3 p hp x hx
  · have hS : Sm befE ([e] ++ P) (P ++ [e]) := Sm.blocks befE_swo (fun x hx y hy => by
      have : x = e := by simpa using hx
      subst this; exact fP y hy)
    have := Sm.app hS (Sm.refl Q)
    simpa using this
/-- The one entry behind a sorted row. -/
theorem last_mono {X A Y : List En} {e : En} (hA : Srtd befE A) : Mono (fun k => !befE e ((X ++ A ++ [e] ++ Y).getD k en0)) X.length (X.length + A.length) := fun k l h1 h2 h3 hf => by
  have ek := getD_mid X A ([e] ++ Y) (k := k) (by omega) (by omega)
  have el := getD_mid X A ([e] ++ Y) (k := l) (by omega) (by omega)
  have e0 : X ++ A ++ [e] ++ Y = X ++ A ++ ([e] ++ Y) := by simp
  rw [e0] at hf ⊢
  simp only [ek, el] at hf ⊢
  have := hA.get (k := k - X.length) (l := l - X.length) (by omega) (by omega)
  cases h : befE e (A.getD (k - X.length) en0) with
  | false => rfl
  | true => rw [lt_of_lt_le h this] at hf; exact hf
theorem last_ok {X A Y : List En} {e : En} {i : Nat} (hA : Srtd befE A) (h : BsI (fun k => !befE e ((X ++ A ++ [e] ++ Y).getD k en0)) X.length (X.length + A.length) i i) :
    ∃ P Q, A = P ++ Q ∧ i = X.length + P.length ∧ P ++ e :: Q = srt befE (A ++ [e]) := by
  have ha := h.a
  have hc := h.c
  refine ⟨A.take (i - X.length), A.drop (i - X.length), (List.take_append_drop _ _).symm, by rw [List.length_take]; omega, ?_⟩
  obtain ⟨P, hP⟩ : ∃ P, P = A.take (i - X.length) := ⟨_, rfl⟩
  obtain ⟨Q, hQ⟩ : ∃ Q, Q = A.drop (i - X.length) := ⟨_, rfl⟩
  have hPQ : A = P ++ Q := by rw [hP, hQ]; exact (List.take_append_drop _ _).symm
  have hPl : P.length = i - X.length := by rw [hP, List.length_take]; omega
  rw [← hP, ← hQ]
  have e0 : X ++ A ++ [e] ++ Y = X ++ A ++ ([e] ++ Y) := by simp
  rw [e0] at h
  have fP : ∀ p ∈ P, befE e p = false := fun p hp => by
    obtain ⟨k, hk, rfl⟩ := mem_getD' hp
    have := h.yes (X.length + k) (by omega) (by omega)
    rw [getD_mid X A ([e] ++ Y) (k := X.length + k) (by omega) (by omega)] at this
    have e1 : X.length + k - X.length = k := by omega
    rw [e1, hPQ] at this
    have e2 : (P ++ Q).getD k en0 = P.getD k en0 := by rw [List.getD_eq_getElem?_getD, List.getD_eq_getElem?_getD, List.getElem?_append_left hk]
    rw [e2] at this
    simpa using this
  have fQ : ∀ q ∈ Q, befE e q = true := fun q hq => by
    obtain ⟨k, hk, rfl⟩ := mem_getD' hq
    have hBl : A.length = P.length + Q.length := by rw [hPQ]; simp
    have := h.no (X.length + P.length + k) (by omega) (by omega)
    rw [getD_mid X A ([e] ++ Y) (k := X.length + P.length + k) (by omega) (by omega)] at this
    have e1 : X.length + P.length + k - X.length = P.length + k := by omega
    rw [e1, hPQ] at this
    have e2 : (P ++ Q).getD (P.length + k) en0 = Q.getD k en0 := by rw [List.getD_eq_getElem?_getD, List.getD_eq_getElem?_getD, List.getElem?_append_right (by omega)]; congr 2; omega
    rw [e2] at this
    simpa using this
  obtain ⟨k1, k2⟩ := ins_ok hA hPQ fQ (fun p hp => fP p (List.mem_of_getLast? hp))
  exact srt_of befE_swo k1 k2
/-- Two sorted rows, cut where the search ended, the middle ones turned round: what is left is to put each half in order. -/
theorem halves_ok {A1 A2 B1 B2 : List En} (hA : Srtd befE (A1 ++ A2)) (hB : Srtd befE (B1 ++ B2)) (h1 : ∀ x ∈ B1, ∀ y ∈ A2, befE x y = true) (h2 : ∀ x ∈ A1, ∀ y ∈ B2, befE y x = false) :
    srt befE (A1 ++ B1) ++ srt befE (A2 ++ B2) = srt befE ((A1 ++ A2) ++ (B1 ++ B2)) := by
  obtain ⟨a1, a2, a3⟩ := List.pairwise_append.1 hA
  obtain ⟨b1, b2, b3⟩ := List.pairwise_append.1 hB
  obtain ⟨s1, s2⟩ := srt_ok befE_swo (A1 ++ B1)
  obtain ⟨t1, t2⟩ := srt_ok befE_swo (A2 ++ B2)
  refine srt_of befE_swo (List.pairwise_append.2 ⟨s1, t1, fun x hx y hy => ?_⟩) ?_
  · have hx' := s2.symm.mem befE_swo hx
    have hy' := t2.symm.mem befE_swo hy
    rcases List.mem_append.1 hx' with hx' | hx' <;> rcases List.mem_append.1 hy' with hy' | hy'
    · exact a3 x hx' y hy'
    · exact h2 x hx' y hy'
    · exact befE_swo.asy (h1 x hx' y hy')
    · exact b3 x hx' y hy'
  · have hS : Sm befE (A2 ++ B1) (B1 ++ A2) := Sm.blocks befE_swo (fun x hx y hy => h1 y hy x hx)
    have h3 : Sm befE (A1 ++ (A2 ++ B1) ++ B2) (A1 ++ (B1 ++ A2) ++ B2) := Sm.app (Sm.app (Sm.refl _) hS) (Sm.refl _)
    have h4 := Sm.app s2 t2
    have h3' : Sm befE (A1 ++ A2 ++ (B1 ++ B2)) (A1 ++ B1 ++ (A2 ++ B2)) := by simpa using h3
    exact h3'.trans h4
theorem srt_self {A : List En} (h : Srtd befE A) : srt befE A = A := (srt_of befE_swo h (Sm.refl A)).symm
/-- What the search in the third case asks. -/
def f3 (zs : List En) (p c : Nat) : Bool := !befE (zs.getD (p - c) en0) (zs.getD c en0)
structure Sym (X A B Y : List En) (a m b mid st r : Nat) : Prop where
  ea : a = X.length
  em : m = X.length + A.length
  eb : b = X.length + A.length + B.length
  emid : mid = (a + b) / 2
  est : st = if mid < m then mid + m - b else a
  er : r = if mid < m then mid else m
theorem sym_mono {X A B Y : List En} {a m b mid st r : Nat} (h : Sym X A B Y a m b mid st r) (hA : Srtd befE A) (hB : Srtd befE B) (hA1 : 0 < A.length) (hB1 : 0 < B.length) : Mono (f3 (X ++ A ++ B ++ Y) (mid + m - 1)) st r := fun k l h1 h2 h3 hf => by
  obtain ⟨ea, em, eb, emid, est, er⟩ := h
  have hst : a ≤ st ∧ mid + m - st ≤ b := by rw [est]; split <;> omega
  have hr : r ≤ m ∧ m ≤ mid + m - r := by rw [er]; split <;> omega
  have gA : ∀ c, a ≤ c → c < m → (X ++ A ++ B ++ Y).getD c en0 = A.getD (c - X.length) en0 := fun c hc1 hc2 => by
    have := getD_mid X A (B ++ Y) (k := c) (by omega) (by omega)
    rw [← this]; congr 1; simp
  have gB : ∀ c, m ≤ c → c < b → (X ++ A ++ B ++ Y).getD c en0 = B.getD (c - (X ++ A).length) en0 := fun c hc1 hc2 => getD_mid (X ++ A) B Y (k := c) (by simp; omega) (by simp; omega)
  unfold f3 at hf ⊢
  rw [gA l (by omega) (by omega), gB _ (by omega) (by omega)] at hf
  rw [gA k (by omega) (by omega), gB _ (by omega) (by omega)]
  have k1 := hA.get (k := k - X.length) (l := l - X.length) (by omega) (by omega)
  have k2 := hB.get (k := mid + m - 1 - l - (X ++ A).length) (l := mid + m - 1 - k - (X ++ A).length) (by omega) (by simp; omega)
  cases hx : befE (B.getD (mid + m - 1 - k - (X ++ A).length) en0) (A.getD (k - X.length) en0) with
  | false => rfl
  | true => rw [lt_of_lt_le (lt_of_le_lt k2 hx) k1] at hf; exact hf
theorem sym_ok {X A B Y : List En} {a m b mid st r s : Nat} (h : Sym X A B Y a m b mid st r) (hA : Srtd befE A) (hB : Srtd befE B) (hA1 : 0 < A.length) (hB1 : 0 < B.length) (hs : BsI (f3 (X ++ A ++ B ++ Y) (mid + m - 1)) st r s s) :
    a ≤ s ∧ s ≤ m ∧ m ≤ mid + m - s ∧ mid + m - s ≤ b ∧ s ≤ mid ∧ mid ≤ mid + m - s ∧
    ∃ A1 A2 B1 B2, A = A1 ++ A2 ∧ B = B1 ++ B2 ∧ s = X.length + A1.length ∧ mid = X.length + A1.length + B1.length ∧ mid + m - s = X.length + A.length + B1.length ∧ Srtd befE A1 ∧ Srtd befE A2 ∧ Srtd befE B1 ∧ Srtd befE B2 ∧
      srt befE (A1 ++ B1) ++ srt befE (A2 ++ B2) = srt befE (A ++ B) := by
  obtain ⟨ea, em, eb, emid, est, er⟩ := h
  have hst : a ≤ st ∧ mid + m - st ≤ b := by rw [est]; split <;> omega
  have hr : r ≤ m ∧ m ≤ mid + m - r ∧ r ≤ mid := by rw [er]; split <;> omega
  have ha := hs.a
  have hc := hs.c
  refine ⟨by omega, by omega, by omega, by omega, by omega, by omega, A.take (s - a), A.drop (s - a), B.take (mid - s), B.drop (mid - s), (List.take_append_drop _ _).symm, (List.take_append_drop _ _).symm, ?_⟩
  obtain ⟨A1, hA1'⟩ : ∃ A1, A1 = A.take (s - a) := ⟨_, rfl⟩
  obtain ⟨A2, hA2'⟩ : ∃ A2, A2 = A.drop (s - a) := ⟨_, rfl⟩
  obtain ⟨B1, hB1'⟩ : ∃ B1, B1 = B.take (mid - s) := ⟨_, rfl⟩
  obtain ⟨B2, hB2'⟩ : ∃ B2, B2 = B.drop (mid - s) := ⟨_, rfl⟩
  have eA : A = A1 ++ A2 := by rw [hA1', hA2']; exact (List.take_append_drop _ _).symm
  have eB : B = B1 ++ B2 := by rw [hB1', hB2']; exact (List.take_append_drop _ _).symm
  have l1 : A1.length = s - a := by rw [hA1', List.length_take]; omega
  have l2 : B1.length = mid - s := by rw [hB1', List.length_take]; omega
  rw [← hA1', ← hA2', ← hB1', ← hB2']
  clear hA1' hA2' hB1' hB2'
  have lA : A.length = A1.length + A2.length := by rw [eA]; simp
  have lB : B.length = B1.length + B2.length := by rw [eB]; simp
  have sA := hA
  have sB := hB
  rw [eA] at sA
  rw [eB] at sB
  obtain ⟨a1, a2, a3⟩ := List.pairwise_append.1 sA
  obtain ⟨b1, b2, b3⟩ := List.pairwise_append.1 sB
  refine ⟨by omega, by omega, by omega, a1, a2, b1, b2, ?_⟩
  have gA : ∀ c, a ≤ c → c < m → (X ++ A ++ B ++ Y).getD c en0 = A.getD (c - X.length) en0 := fun c hc1 hc2 => by
    have := getD_mid X A (B ++ Y) (k := c) (by omega) (by omega)
    rw [← this]; congr 1; simp
  have gB : ∀ c, m ≤ c → c < b → (X ++ A ++ B ++ Y).getD c en0 = B.getD (c - (X ++ A).length) en0 := fun c hc1 hc2 => getD_mid (X ++ A) B Y (k := c) (by simp; omega) (by simp; omega)
  have lXA : (X ++ A).length = m := by rw [List.length_append]; omega
  rw [eA, eB]
  refine halves_ok sA sB (fun x hx y hy => ?_) (fun x hx y hy => ?_)
  · obtain ⟨u, hu, rfl⟩ := mem_getD' hx
    obtain ⟨v, hv, rfl⟩ := mem_getD' hy
    have hsr : s < r := by rw [er]; split <;> omega
    have hf := hs.no s (Nat.le_refl _) hsr
    unfold f3 at hf
    rw [gA s (by omega) (by omega), gB _ (by omega) (by omega)] at hf
    have hf' : befE (B.getD (mid + m - 1 - s - (X ++ A).length) en0) (A.getD (s - X.length) en0) = true := by simpa using hf
    have k1 := hB.get (k := u) (l := mid + m - 1 - s - (X ++ A).length) (by omega) (by omega)
    have k2 := hA.get (k := s - X.length) (l := A1.length + v) (by omega) (by omega)
    have e1 : B.getD u en0 = B1.getD u en0 := by rw [eB, List.getD_eq_getElem?_getD, List.getD_eq_getElem?_getD, List.getElem?_append_left hu]
    have e2 : A.getD (A1.length + v) en0 = A2.getD v en0 := by rw [eA, List.getD_eq_getElem?_getD, List.getD_eq_getElem?_getD, List.getElem?_append_right (by omega)]; congr 2; omega
    rw [e1] at k1
    rw [e2] at k2
    exact lt_of_lt_le (lt_of_le_lt k1 hf') k2
  · obtain ⟨u, hu, rfl⟩ := mem_getD' hx
    obtain ⟨v, hv, rfl⟩ := mem_getD' hy
    have hss : st < s := by rw [est]; split <;> omega
    have hf := hs.yes (s - 1) (by omega) (by omega)
    unfold f3 at hf
    rw [gA (s - 1) (by omega) (by omega), gB _ (by omega) (by omega)] at hf
    have hf' : befE (B.getD (mid + m - 1 - (s - 1) - (X ++ A).length) en0) (A.getD (s - 1 - X.length) en0) = false := by simpa using hf
    have k1 := hA.get (k := u) (l := s - 1 - X.length) (by omega) (by omega)
    have k2 := hB.get (k := mid + m - 1 - (s - 1) - (X ++ A).length) (l := B1.length + v) (by omega) (by omega)
    have e1 : A.getD u en0 = A1.getD u en0 := by rw [eA, List.getD_eq_getElem?_getD, List.getD_eq_getElem?_getD, List.getElem?_append_left hu]
    have e2 : B.getD (B1.length + v) en0 = B2.getD v en0 := by rw [eB, List.getD_eq_getElem?_getD, List.getD_eq_getElem?_getD, List.getElem?_append_right (by omega)]; congr 2; omega
    rw [e1] at k1
    rw [e2] at k2
    exact befE_swo.neg _ _ _ (befE_swo.neg _ _ _ k2 hf') k1
end Go.Proofs.YtgmfjninimebmaaGreatDoor
namespace Go.Proofs.YtgmfjninimebmaaGreatDoor
open Go.RowKit Go.Maps
set_option linter.unusedVariables false
set_option linter.unusedSimpArgs false

set_option maxRecDepth 100000 in
set_option maxHeartbeats 8000000 in
theorem symOne (g n cap : Nat) (X B Y : List En) (e : En) (w : World) (hp : RowE w g n (X ++ [e] ++ B ++ Y) n) (hl : (X ++ [e] ++ B ++ Y).length = n) (hn : n ≤ 1048576) (a m b : Nat) (ha : a = X.length) (hm : m = X.length + 1) (hb : b = X.length + 1 + B.length) (hB : Srtd befE B) :
    Calls Tryz.prog 167 #[.slice (some ⟨g, 0, none⟩) n cap, .int .i64 a, .int .i64 m, .int .i64 b, .func (.func 86) #[] #[]] w fun ee w' => (∃ v, ee = .returned v) ∧ RowE w' g n (X ++ srt befE ([e] ++ B) ++ Y) n ∧ OnlyG g w w' := by
  have hlen : X.length + 1 + B.length + Y.length = n := by simp at hl; omega
  have HP := hdN hp
  have hwa : IntKind.i64.wrap ((m : Int) - (a : Int)) = 1 := by rw [IntKind.wrap_i64]; omega
  have hma : (m : Int) - (a : Int) = 1 := by omega
  obtain ⟨T, hT⟩ : ∃ T, T = X ++ srt befE ([e] ++ B) ++ Y := ⟨_, rfl⟩
  rw [← hT]
  obtain ⟨F, hF⟩ : ∃ F : Nat → Bool, F = fun k => befE ((X ++ [e] ++ B ++ Y).getD k en0) e := ⟨_, rfl⟩
  have HM : Hid (Mono F m b) := by rw [hF, hm, hb]; exact one_mono hB
  have HOK : Hid (∀ i, BsI F m b i i → ∃ P Q, B = P ++ Q ∧ i = m + P.length ∧ X ++ (P ++ e :: Q) ++ Y = T) := fun i h => by
    rw [hF, hm, hb] at h
    obtain ⟨P, Q, h1, h2, h3⟩ := one_ok hB h
    exact ⟨P, Q, h1, by omega, by rw [hT, h3]⟩
  have HF : Hid (∀ k, F k = befE ((X ++ [e] ++ B ++ Y).getD k en0) e) := fun k => by rw [hF]
  have HZE : Hid ((X ++ [e] ++ B ++ Y).getD a en0 = e) := by show _ = _; rw [ha]; simp [List.getD]
  have HLZ := hdN hl
  have HA := hdN ha
  have HBb := hdN hb
  have hLN := hdN hlen
  have hbn : b ≤ n := by omega
  have hmb : m ≤ b := by omega
  have HAM : Hid (m = a + 1) := by show _ = _; omega
  have han : a < n := by omega
  have HB := hdN hB
  generalize hZ : X ++ [e] ++ B ++ Y = Z at *
  have HZ := hdN hZ
  clear hp hl hT ha hb hlen hF hB hm hZ
  go_enter Tryz.func167, Tryz.ntmps167
  go_wp2_with fail
  go_loopw [10, 11] (fun v10 v11 W => ∃ (i j : Nat), v10 = .int .i64 (i : Int) ∧ v11 = .int .i64 (j : Int) ∧ Hid (BsI F m b i j) ∧ Hid (RowE W g n Z n) ∧ Hid (OnlyG g w W)) (fun v10 v11 _ => (intOf v11).toNat - (intOf v10).toNat)
  case atStart => exact ⟨m, b, rfl, rfl, BsI.start _ hmb, HP, ⟨rfl, rfl, rfl, Nat.le_refl _, fun _ _ _ => rfl⟩⟩
  case round =>
    clear HP
    obtain ⟨i, j, rfl, rfl, HI, HP, HO⟩ := hrel
    have hI1 := HI.out.a
    have hI2 := HI.out.b
    have hI3 := HI.out.c
    by_cases hij : i < j
    · have hij' : (i : Int) < (j : Int) := by omega
      obtain ⟨h, hh⟩ : ∃ h : Nat, h = (i + j) / 2 := ⟨_, rfl⟩
      have hh' : ((i : Int) + (j : Int)) / 2 = (h : Int) := by omega
      have hih : i ≤ h := by omega
      have hhj : h < j := by omega
      have hhn : (h : Int) < (n : Int) := by omega
      have han' : (a : Int) < (n : Int) := by omega
      clear hh
      obtain ⟨cs, r1, r2, r3⟩ := HP.out
      obtain ⟨c0, c1, c2, c3⟩ := r3 h (by omega)
      obtain ⟨d0, d1, d2, d3⟩ := r3 a (by omega)
      have cell : ∀ o v, cs[o]? = some v → wr.cell? ⟨g, o, none⟩ = some v := fun o v h => by simp only [World.cell?, r1]; exact h
      have x0 := cell _ _ c0
      have x1 := cell _ _ c1
      have x2 := cell _ _ c2
      have x3 := cell _ _ c3
      have y0 := cell _ _ d0
      have y1 := cell _ _ d1
      have y2 := cell _ _ d2
      have y3 := cell _ _ d3
      have hgl := heap_lt r1
      clear c0 c1 c2 c3 d0 d1 d2 d3 cell r3 r1 r2
      rw [HZE.out] at y0 y1 y2 y3
      have HFh := hdN (HF.out h)
      generalize Z.getD h en0 = y at *
      have HC := hdN (entryOrder_any y e wr.drew)
      have HL := hdN (ordE_lt y e)
      cases hbf : befE y e with
      | true =>
        have hlt0 : ordE y e < 0 := by have := HL.out; rw [hbf] at this; simp at this; omega
        have HN : Hid (BsI F m b (h + 1) j) := BsI.up HM.out HI.out hih hhj (by rw [HFh.out]; exact hbf)
        clear hbf HL HFh
        generalize ordE y e = oi at *
        go_wp2_with fail
        go_region_held3 (fun w' => w'.cell? ⟨g, h * 4, none⟩ = some (.string y.ky) ∧ w'.cell? ⟨g, h * 4 + 1, none⟩ = some (.int .i64 y.sq) ∧ w'.cell? ⟨g, h * 4 + 2, none⟩ = some (.int .i64 y.kd) ∧ w'.cell? ⟨g, h * 4 + 3, none⟩ = some (.string y.vl) ∧ w'.cell? ⟨g, a * 4, none⟩ = some (.string e.ky) ∧ w'.cell? ⟨g, a * 4 + 1, none⟩ = some (.int .i64 e.sq) ∧ w'.cell? ⟨g, a * 4 + 2, none⟩ = some (.int .i64 e.kd) ∧ w'.cell? ⟨g, a * 4 + 3, none⟩ = some (.string e.vl)) (simp [go_sem, *])
          (first | (go_at_call 86; refine HC.out.mono ?_; rintro ee w6 ⟨rfl, hb6⟩; have HG6 := hdN ((Below.refl wr.heap.size wr).drew.trans hb6); have u0 := (HG6.out.cell (p := ⟨g, (h) * 4, none⟩) hgl).trans x0; have u1 := (HG6.out.cell (p := ⟨g, (h) * 4 + 1, none⟩) hgl).trans x1; have u2 := (HG6.out.cell (p := ⟨g, (h) * 4 + 2, none⟩) hgl).trans x2; have u3 := (HG6.out.cell (p := ⟨g, (h) * 4 + 3, none⟩) hgl).trans x3; have v0 := (HG6.out.cell (p := ⟨g, (a) * 4, none⟩) hgl).trans y0; have v1 := (HG6.out.cell (p := ⟨g, (a) * 4 + 1, none⟩) hgl).trans y1; have v2 := (HG6.out.cell (p := ⟨g, (a) * 4 + 2, none⟩) hgl).trans y2; have v3 := (HG6.out.cell (p := ⟨g, (a) * 4 + 3, none⟩) hgl).trans y3; clear hb6))
        have HP6 : Hid (RowE w6 g n Z n) := RowE.block HP.out (HG6.out.block g hgl)
        have HO6 := hdN (HO.out.trans (OnlyG.of HG6.out))
        clear x0 x1 x2 x3 y0 y1 y2 y3 HP HO HC HG6
        go_wp2_with fail
        exact ⟨⟨h + 1, j, by first | rfl | go_num, rfl, HN, HP6, HO6⟩, by simp only [intOf]; omega⟩
      | false =>
        have hlt0 : ¬ ordE y e < 0 := by have := HL.out; rw [hbf] at this; simp at this; omega
        have HN : Hid (BsI F m b i h) := BsI.down HM.out HI.out hih hhj (by rw [HFh.out]; exact hbf)
        clear hbf HL HFh
        generalize ordE y e = oi at *
        go_wp2_with fail
        go_region_held3 (fun w' => w'.cell? ⟨g, h * 4, none⟩ = some (.string y.ky) ∧ w'.cell? ⟨g, h * 4 + 1, none⟩ = some (.int .i64 y.sq) ∧ w'.cell? ⟨g, h * 4 + 2, none⟩ = some (.int .i64 y.kd) ∧ w'.cell? ⟨g, h * 4 + 3, none⟩ = some (.string y.vl) ∧ w'.cell? ⟨g, a * 4, none⟩ = some (.string e.ky) ∧ w'.cell? ⟨g, a * 4 + 1, none⟩ = some (.int .i64 e.sq) ∧ w'.cell? ⟨g, a * 4 + 2, none⟩ = some (.int .i64 e.kd) ∧ w'.cell? ⟨g, a * 4 + 3, none⟩ = some (.string e.vl)) (simp [go_sem, *])
          (first | (go_at_call 86; refine HC.out.mono ?_; rintro ee w6 ⟨rfl, hb6⟩; have HG6 := hdN ((Below.refl wr.heap.size wr).drew.trans hb6); have u0 := (HG6.out.cell (p := ⟨g, (h) * 4, none⟩) hgl).trans x0; have u1 := (HG6.out.cell (p := ⟨g, (h) * 4 + 1, none⟩) hgl).trans x1; have u2 := (HG6.out.cell (p := ⟨g, (h) * 4 + 2, none⟩) hgl).trans x2; have u3 := (HG6.out.cell (p := ⟨g, (h) * 4 + 3, none⟩) hgl).trans x3; have v0 := (HG6.out.cell (p := ⟨g, (a) * 4, none⟩) hgl).trans y0; have v1 := (HG6.out.cell (p := ⟨g, (a) * 4 + 1, none⟩) hgl).trans y1; have v2 := (HG6.out.cell (p := ⟨g, (a) * 4 + 2, none⟩) hgl).trans y2; have v3 := (HG6.out.cell (p := ⟨g, (a) * 4 + 3, none⟩) hgl).trans y3; clear hb6))
        have HP6 : Hid (RowE w6 g n Z n) := RowE.block HP.out (HG6.out.block g hgl)
        have HO6 := hdN (HO.out.trans (OnlyG.of HG6.out))
        clear x0 x1 x2 x3 y0 y1 y2 y3 HP HO HC HG6
        go_wp2_with fail
        exact ⟨⟨i, h, rfl, by first | rfl | go_num, HN, HP6, HO6⟩, by simp only [intOf]; omega⟩
    · have hij' : ¬ (i : Int) < (j : Int) := by omega
      have hje : j = i := by omega
      subst hje
      obtain ⟨P, Q, hPQ, hiP, hTT⟩ := HOK.out _ HI.out
      have HPQ := hdN hPQ
      have HiP := hdN hiP
      have HTT := hdN hTT
      have hi1 : IntKind.i64.wrap ((j : Int) - 1) = (j : Int) - 1 := by rw [IntKind.wrap_i64]; omega
      clear hPQ hiP hTT
      go_wp2_with fail
      go_loopw [13] (fun v13 W => ∃ (k : Nat) (P1 P2 : List En), v13 = .int .i64 (k : Int) ∧ Hid (P = P1 ++ P2 ∧ k = a + P1.length) ∧ Hid (RowE W g n (X ++ P1 ++ e :: (P2 ++ Q ++ Y)) n) ∧ Hid (OnlyG g w W)) (fun v13 _ => j - (intOf v13).toNat)
      case atStart => exact ⟨a, [], P, rfl, ⟨by simp, by simp⟩, by rw [← HZ.out, HPQ.out] at HP; simpa using HP, HO⟩
      case round =>
        clear HP HO
        obtain ⟨k, P1, P2, rfl, HI2, HP, HO⟩ := hrel
        obtain ⟨hP12, hk⟩ := HI2.out
        have hjk : j = k + 1 + P2.length := by have h1 := HiP.out; have h2 := HAM.out; rw [hP12, List.length_append] at h1; omega
        cases P2 with
        | nil =>
          have hkj : ¬ (k : Int) < (j : Int) - 1 := by simp at hjk; omega
          have HE : Hid (X ++ P1 ++ e :: ([] ++ Q ++ Y) = T) := by show _ = _; rw [← HTT.out, hP12]; simp
          clear hP12 hk hjk
          go_wp2_with fail
          refine bodyPost_ret (results_none rfl _ _ _) rfl ?_
          exact ⟨⟨_, rfl⟩, by rw [← HE.out]; exact HP.out, HO.out⟩
        | cons p P2 =>
          have hkj : (k : Int) < (j : Int) - 1 := by simp at hjk; omega
          have hl : k = (X ++ P1).length := by rw [List.length_append, ← HA.out]; exact hk
          obtain ⟨zs, hz⟩ : ∃ zs, zs = X ++ P1 ++ e :: (p :: P2 ++ Q ++ Y) := ⟨_, rfl⟩
          rw [← hz] at HP
          have hz2 : zs = (X ++ P1) ++ e :: p :: (P2 ++ Q ++ Y) := by rw [hz]; simp
          have hzl : zs.length = n := by have h1 := hLN.out; rw [HPQ.out, hP12] at h1; rw [hz2]; simp at *; omega
          have hkn : k + 1 < n := by omega
          have gp : zs.getD k en0 = e := by rw [hz2, hl]; simp [List.getD]
          have ge : zs.getD (k + 1) en0 = p := by rw [hz2, hl]; exact getU1 _ _ _ _
          have HSET : Hid ((zs.set k p).set (k + 1) e = X ++ (P1 ++ [p]) ++ e :: (P2 ++ Q ++ Y)) := by
            show _ = _
            rw [List.set_comm _ _ (by omega), hz2, hl]
            have := set2 (X ++ P1) (P2 ++ Q ++ Y) e p
            simpa using this
          have HN : Hid (P = (P1 ++ [p]) ++ P2 ∧ k + 1 = a + (P1 ++ [p]).length) := ⟨by rw [hP12]; simp, by simp; omega⟩
          obtain ⟨cs, r1, r2, r3⟩ := HP.out
          obtain ⟨c0, c1, c2, c3⟩ := r3 k (by omega)
          obtain ⟨d0, d1, d2, d3⟩ := r3 (k + 1) (by omega)
          have cell : ∀ o v, cs[o]? = some v → wr.cell? ⟨g, o, none⟩ = some v := fun o v h => by simp only [World.cell?, r1]; exact h
          have x0 := cell _ _ c0
          have x1 := cell _ _ c1
          have x2 := cell _ _ c2
          have x3 := cell _ _ c3
          have y0 := cell _ _ d0
          have y1 := cell _ _ d1
          have y2 := cell _ _ d2
          have y3 := cell _ _ d3
          have hgl := heap_lt r1
          clear c0 c1 c2 c3 d0 d1 d2 d3 cell r3 r1 r2
          rw [gp] at x0 x1 x2 x3
          rw [ge] at y0 y1 y2 y3
          have fz : ∀ o, wr.frozen? ⟨g, o, none⟩ = false := fun o => by
            obtain ⟨cs', q1, -⟩ := HP.out
            simp [World.frozen?, q1]
          have HPx : Hid (RowE (putE (putE wr g k p) g (k + 1) e).drew g n (X ++ (P1 ++ [p]) ++ e :: (P2 ++ Q ++ Y)) n) := by
            show RowE _ _ _ _ _
            rw [← HSET.out]
            exact ((HP.out.put hzl (by omega) p).put (by rw [List.length_set]; exact hzl) hkn e).block (drew_heap _ _)
          have HOx : Hid (OnlyG g w (putE (putE wr g k p) g (k + 1) e).drew) := HO.out.trans (((putE_only _ _ _ _).trans (putE_only _ _ _ _)).trans (OnlyG.of ((Below.refl _ _).drew)))
          have k1 : (k : Int) + 1 < (n : Int) := by omega
          have k2 : (k : Int) < (n : Int) := by omega
          have k3 : IntKind.i64.wrap ((k : Int) + 1) = (k : Int) + 1 := by rw [IntKind.wrap_i64]; omega
          have k6 : ((k : Int) + 1).toNat = k + 1 := by omega
          have k7 : (0 : Int) ≤ (k : Int) + 1 := by omega
          have hkj3 : k < j := by omega
          clear hz hz2 hP12 hk hl gp ge hzl HP HO HI2 hjk
          unfold putE at HPx HOx
          go_wp2_with fail
          go_region_law (fail)
          all_goals
            clear x0 x1 x2 x3 y0 y1 y2 y3 fz
            go_wp2_with fail
            exact ⟨⟨k + 1, P1 ++ [p], P2, by first | rfl | go_num, HN, HPx, HOx⟩, by simp only [intOf]; omega⟩
end Go.Proofs.YtgmfjninimebmaaGreatDoor
namespace Go.Proofs.YtgmfjninimebmaaGreatDoor
open Go.RowKit Go.Maps
set_option linter.unusedVariables false
set_option linter.unusedSimpArgs false

set_option maxRecDepth 100000 in
set_option maxHeartbeats 8000000 in
theorem symLast (g n cap : Nat) (X A Y : List En) (e : En) (w : World) (hp : RowE w g n (X ++ A ++ [e] ++ Y) n) (hl : (X ++ A ++ [e] ++ Y).length = n) (hn : n ≤ 1048576) (a m b : Nat) (ha : a = X.length) (hm : m = X.length + A.length) (hb : b = X.length + A.length + 1) (hA : Srtd befE A) (hA2 : 1 < A.length) :
    Calls Tryz.prog 167 #[.slice (some ⟨g, 0, none⟩) n cap, .int .i64 a, .int .i64 m, .int .i64 b, .func (.func 86) #[] #[]] w fun ee w' => (∃ v, ee = .returned v) ∧ RowE w' g n (X ++ srt befE (A ++ [e]) ++ Y) n ∧ OnlyG g w w' := by
  have hlen : X.length + A.length + 1 + Y.length = n := by simp at hl; omega
  have HP := hdN hp
  have hwa : IntKind.i64.wrap ((m : Int) - (a : Int)) = (A.length : Int) := by rw [IntKind.wrap_i64]; omega
  have hma : (m : Int) - (a : Int) = (A.length : Int) := by omega
  have hma1 : ((A.length : Int) == 1) = false := by simp; omega
  have hma2 : ¬ (A.length : Int) = 1 := by omega
  have hma3 : ¬ A.length = 1 := by omega
  have hwb : IntKind.i64.wrap ((b : Int) - (m : Int)) = 1 := by rw [IntKind.wrap_i64]; omega
  have hbm : (b : Int) - (m : Int) = 1 := by omega
  obtain ⟨T, hT⟩ : ∃ T, T = X ++ srt befE (A ++ [e]) ++ Y := ⟨_, rfl⟩
  rw [← hT]
  obtain ⟨F, hF⟩ : ∃ F : Nat → Bool, F = fun k => !befE e ((X ++ A ++ [e] ++ Y).getD k en0) := ⟨_, rfl⟩
  have HM : Hid (Mono F a m) := by rw [hF, ha, hm]; exact last_mono hA
  have HOK : Hid (∀ i, BsI F a m i i → ∃ P Q, A = P ++ Q ∧ i = a + P.length ∧ X ++ (P ++ e :: Q) ++ Y = T) := fun i h => by
    rw [hF, hm, ha] at h
    obtain ⟨P, Q, h1, h2, h3⟩ := last_ok hA h
    exact ⟨P, Q, h1, by omega, by rw [hT, h3]⟩
  have HF : Hid (∀ k, F k = !befE e ((X ++ A ++ [e] ++ Y).getD k en0)) := fun k => by rw [hF]
  have HZE : Hid ((X ++ A ++ [e] ++ Y).getD m en0 = e) := by
    show _ = _
    have h1 := getD_mid (X ++ A) [e] Y (k := m) (by simp; omega) (by simp; omega)
    have h2 : m - (X ++ A).length = 0 := by simp; omega
    rw [h2] at h1
    exact h1
  have HLZ := hdN hl
  have HAx := hdN ha
  have HMx := hdN hm
  have hLN := hdN hlen
  have hmn : m < n := by omega
  have ham : a ≤ m := by omega
  have HB := hdN hA
  generalize hZ : X ++ A ++ [e] ++ Y = Z at *
  generalize hAl : A.length = al at *
  have HAl := hdN hAl
  have HZ := hdN hZ
  clear hp hl hT ha hb hlen hF hA hm hZ hA2 hAl
  go_enter Tryz.func167, Tryz.ntmps167
  go_wp2_with fail
  go_loopw [14, 15] (fun v14 v15 W => ∃ (i j : Nat), v14 = .int .i64 (i : Int) ∧ v15 = .int .i64 (j : Int) ∧ Hid (BsI F a m i j) ∧ Hid (RowE W g n Z n) ∧ Hid (OnlyG g w W)) (fun v14 v15 _ => (intOf v15).toNat - (intOf v14).toNat)
  case atStart => exact ⟨a, m, rfl, rfl, BsI.start _ ham, HP, ⟨rfl, rfl, rfl, Nat.le_refl _, fun _ _ _ => rfl⟩⟩
  case round =>
    clear HP
    obtain ⟨i, j, rfl, rfl, HI, HP, HO⟩ := hrel
    have hI1 := HI.out.a
    have hI2 := HI.out.b
    have hI3 := HI.out.c
    by_cases hij : i < j
    · have hij' : (i : Int) < (j : Int) := by omega
      obtain ⟨h, hh⟩ : ∃ h : Nat, h = (i + j) / 2 := ⟨_, rfl⟩
      have hh' : ((i : Int) + (j : Int)) / 2 = (h : Int) := by omega
      have hih : i ≤ h := by omega
      have hhj : h < j := by omega
      have hhn : (h : Int) < (n : Int) := by omega
      have hmn' : (m : Int) < (n : Int) := by omega
      clear hh
      obtain ⟨cs, r1, r2, r3⟩ := HP.out
      obtain ⟨c0, c1, c2, c3⟩ := r3 m (by omega)
      obtain ⟨d0, d1, d2, d3⟩ := r3 h (by omega)
      have cell : ∀ o v, cs[o]? = some v → wr.cell? ⟨g, o, none⟩ = some v := fun o v h => by simp only [World.cell?, r1]; exact h
      have x0 := cell _ _ c0
      have x1 := cell _ _ c1
      have x2 := cell _ _ c2
      have x3 := cell _ _ c3
      have y0 := cell _ _ d0
      have y1 := cell _ _ d1
      have y2 := cell _ _ d2
      have y3 := cell _ _ d3
      have hgl := heap_lt r1
      clear c0 c1 c2 c3 d0 d1 d2 d3 cell r3 r1 r2
      rw [HZE.out] at x0 x1 x2 x3
      have HFh := hdN (HF.out h)
      generalize Z.getD h en0 = y at *
      have HC := hdN (entryOrder_any e y wr.drew)
      have HL := hdN (ordE_lt e y)
      cases hbf : befE e y with
      | false =>
        have hlt0 : ¬ ordE e y < 0 := by have := HL.out; rw [hbf] at this; simp at this; omega
        have HN : Hid (BsI F a m (h + 1) j) := BsI.up HM.out HI.out hih hhj (by rw [HFh.out, hbf]; rfl)
        clear hbf HL HFh
        generalize ordE e y = oi at *
        go_wp2_with fail
        go_region_held3 (fun w' => w'.cell? ⟨g, m * 4, none⟩ = some (.string e.ky) ∧ w'.cell? ⟨g, m * 4 + 1, none⟩ = some (.int .i64 e.sq) ∧ w'.cell? ⟨g, m * 4 + 2, none⟩ = some (.int .i64 e.kd) ∧ w'.cell? ⟨g, m * 4 + 3, none⟩ = some (.string e.vl) ∧ w'.cell? ⟨g, h * 4, none⟩ = some (.string y.ky) ∧ w'.cell? ⟨g, h * 4 + 1, none⟩ = some (.int .i64 y.sq) ∧ w'.cell? ⟨g, h * 4 + 2, none⟩ = some (.int .i64 y.kd) ∧ w'.cell? ⟨g, h * 4 + 3, none⟩ = some (.string y.vl)) (simp [go_sem, *])
          (first | (go_at_call 86; refine HC.out.mono ?_; rintro ee w6 ⟨rfl, hb6⟩; have HG6 := hdN ((Below.refl wr.heap.size wr).drew.trans hb6); have u0 := (HG6.out.cell (p := ⟨g, (m) * 4, none⟩) hgl).trans x0; have u1 := (HG6.out.cell (p := ⟨g, (m) * 4 + 1, none⟩) hgl).trans x1; have u2 := (HG6.out.cell (p := ⟨g, (m) * 4 + 2, none⟩) hgl).trans x2; have u3 := (HG6.out.cell (p := ⟨g, (m) * 4 + 3, none⟩) hgl).trans x3; have v0 := (HG6.out.cell (p := ⟨g, (h) * 4, none⟩) hgl).trans y0; have v1 := (HG6.out.cell (p := ⟨g, (h) * 4 + 1, none⟩) hgl).trans y1; have v2 := (HG6.out.cell (p := ⟨g, (h) * 4 + 2, none⟩) hgl).trans y2; have v3 := (HG6.out.cell (p := ⟨g, (h) * 4 + 3, none⟩) hgl).trans y3; clear hb6))
        have HP6 : Hid (RowE w6 g n Z n) := RowE.block HP.out (HG6.out.block g hgl)
        have HO6 := hdN (HO.out.trans (OnlyG.of HG6.out))
        clear x0 x1 x2 x3 y0 y1 y2 y3 HP HO HC HG6
        go_wp2_with fail
        all_goals first
          | exact ⟨⟨h + 1, j, by first | rfl | go_num, rfl, HN, HP6, HO6⟩, by simp only [intOf]; omega⟩
          | (exfalso; rename_i hx; simp at hx; omega)
      | true =>
        have hlt0 : ordE e y < 0 := by have := HL.out; rw [hbf] at this; simp at this; omega
        have HN : Hid (BsI F a m i h) := BsI.down HM.out HI.out hih hhj (by rw [HFh.out, hbf]; rfl)
        clear hbf HL HFh
        generalize ordE e y = oi at *
        go_wp2_with fail
        go_region_held3 (fun w' => w'.cell? ⟨g, m * 4, none⟩ = some (.string e.ky) ∧ w'.cell? ⟨g, m * 4 + 1, none⟩ = some (.int .i64 e.sq) ∧ w'.cell? ⟨g, m * 4 + 2, none⟩ = some (.int .i64 e.kd) ∧ w'.cell? ⟨g, m * 4 + 3, none⟩ = some (.string e.vl) ∧ w'.cell? ⟨g, h * 4, none⟩ = some (.string y.ky) ∧ w'.cell? ⟨g, h * 4 + 1, none⟩ = some (.int .i64 y.sq) ∧ w'.cell? ⟨g, h * 4 + 2, none⟩ = some (.int .i64 y.kd) ∧ w'.cell? ⟨g, h * 4 + 3, none⟩ = some (.string y.vl)) (simp [go_sem, *])
          (first | (go_at_call 86; refine HC.out.mono ?_; rintro ee w6 ⟨rfl, hb6⟩; have HG6 := hdN ((Below.refl wr.heap.size wr).drew.trans hb6); have u0 := (HG6.out.cell (p := ⟨g, (m) * 4, none⟩) hgl).trans x0; have u1 := (HG6.out.cell (p := ⟨g, (m) * 4 + 1, none⟩) hgl).trans x1; have u2 := (HG6.out.cell (p := ⟨g, (m) * 4 + 2, none⟩) hgl).trans x2; have u3 := (HG6.out.cell (p := ⟨g, (m) * 4 + 3, none⟩) hgl).trans x3; have v0 := (HG6.out.cell (p := ⟨g, (h) * 4, none⟩) hgl).trans y0; have v1 := (HG6.out.cell (p := ⟨g, (h) * 4 + 1, none⟩) hgl).trans y1; have v2 := (HG6.out.cell (p := ⟨g, (h) * 4 + 2, none⟩) hgl).trans y2; have v3 := (HG6.out.cell (p := ⟨g, (h) * 4 + 3, none⟩) hgl).trans y3; clear hb6))
        have HP6 : Hid (RowE w6 g n Z n) := RowE.block HP.out (HG6.out.block g hgl)
        have HO6 := hdN (HO.out.trans (OnlyG.of HG6.out))
        clear x0 x1 x2 x3 y0 y1 y2 y3 HP HO HC HG6
        go_wp2_with fail
        all_goals first
          | exact ⟨⟨i, h, rfl, by first | rfl | go_num, HN, HP6, HO6⟩, by simp only [intOf]; omega⟩
          | (exfalso; rename_i hx; simp at hx; omega)
    · have hij' : ¬ (i : Int) < (j : Int) := by omega
      have hje : j = i := by omega
      subst hje
      obtain ⟨P, Q, hPQ, hiP, hTT⟩ := HOK.out _ HI.out
      have HPQ := hdN hPQ
      have HiP := hdN hiP
      have HTT := hdN hTT
      clear hPQ hiP hTT
      go_wp2_with fail
      go_loopw [17] (fun v17 W => ∃ (k : Nat) (Q1 Q2 : List En), v17 = .int .i64 (k : Int) ∧ Hid (Q = Q1 ++ Q2 ∧ k = j + Q1.length) ∧ Hid (RowE W g n (X ++ P ++ Q1 ++ e :: (Q2 ++ Y)) n) ∧ Hid (OnlyG g w W)) (fun v17 _ => (intOf v17).toNat)
      case atStart =>
        refine ⟨m, Q, [], rfl, ⟨by simp, ?_⟩, ?_, HO⟩
        · have h1 := HAl.out
          rw [HPQ.out, List.length_append] at h1
          have h2 := HiP.out
          have h3 := HMx.out
          have h4 := HAx.out
          omega
        · rw [← HZ.out, HPQ.out] at HP; simpa using HP
      case round =>
        clear HP HO
        obtain ⟨k, Q1, Q2, rfl, HI2, HP, HO⟩ := hrel
        obtain ⟨hQ12, hk⟩ := HI2.out
        rcases List.eq_nil_or_concat Q1 with hQ1 | ⟨Q1', q, hQ1⟩
        · have hkj : ¬ (j : Int) < (k : Int) := by rw [hQ1] at hk; simp at hk; omega
          have HE : Hid (X ++ P ++ Q1 ++ e :: (Q2 ++ Y) = T) := by show _ = _; rw [← HTT.out, hQ12, hQ1]; simp
          clear hQ12 hk
          go_wp2_with fail
          refine bodyPost_ret (results_none rfl _ _ _) rfl ?_
          exact ⟨⟨_, rfl⟩, by rw [← HE.out]; exact HP.out, HO.out⟩
        · have hQ1' : Q1 = Q1' ++ [q] := by simpa using hQ1
          obtain ⟨l, hl⟩ : ∃ l, l = (X ++ P ++ Q1').length := ⟨_, rfl⟩
          have hkl : k = l + 1 := by rw [hQ1'] at hk; have h2 := HiP.out; have h4 := HAx.out; simp at hk hl; omega
          subst hkl
          have hjl : j ≤ l := by rw [hQ1'] at hk; simp at hk; omega
          have hkj : (j : Int) < (l : Int) + 1 := by omega
          obtain ⟨zs, hz⟩ : ∃ zs, zs = X ++ P ++ Q1 ++ e :: (Q2 ++ Y) := ⟨_, rfl⟩
          rw [← hz] at HP
          have hz2 : zs = (X ++ P ++ Q1') ++ q :: e :: (Q2 ++ Y) := by rw [hz, hQ1']; simp
          have hzl : zs.length = n := by have h1 := hLN.out; have h2 := HAl.out; rw [HPQ.out, hQ12, hQ1'] at h2; rw [hz2]; simp at *; omega
          have hkn : l + 1 < n := by rw [← hzl, hz2]; simp at hl ⊢; omega
          have gp : zs.getD l en0 = q := by rw [hz2, hl]; simp [List.getD]
          have ge : zs.getD (l + 1) en0 = e := by rw [hz2, hl]; exact getU1 _ _ _ _
          have HSET : Hid ((zs.set (l + 1) q).set l e = X ++ P ++ Q1' ++ e :: (([q] ++ Q2) ++ Y)) := by
            show _ = _
            rw [hz2, hl]
            have := set2 (X ++ P ++ Q1') (Q2 ++ Y) q e
            simpa using this
          have HN : Hid (Q = Q1' ++ ([q] ++ Q2) ∧ l = j + Q1'.length) := ⟨by rw [hQ12, hQ1']; simp, by rw [hQ1'] at hk; simp at hk; omega⟩
          obtain ⟨cs, r1, r2, r3⟩ := HP.out
          obtain ⟨c0, c1, c2, c3⟩ := r3 l (by omega)
          obtain ⟨d0, d1, d2, d3⟩ := r3 (l + 1) (by omega)
          have cell : ∀ o v, cs[o]? = some v → wr.cell? ⟨g, o, none⟩ = some v := fun o v h => by simp only [World.cell?, r1]; exact h
          have x0 := cell _ _ c0
          have x1 := cell _ _ c1
          have x2 := cell _ _ c2
          have x3 := cell _ _ c3
          have y0 := cell _ _ d0
          have y1 := cell _ _ d1
          have y2 := cell _ _ d2
          have y3 := cell _ _ d3
          have hgl := heap_lt r1
          clear c0 c1 c2 c3 d0 d1 d2 d3 cell r3 r1 r2
          rw [gp] at x0 x1 x2 x3
          rw [ge] at y0 y1 y2 y3
          have fz : ∀ o, wr.frozen? ⟨g, o, none⟩ = false := fun o => by
            obtain ⟨cs', q1, -⟩ := HP.out
            simp [World.frozen?, q1]
          have HPx : Hid (RowE (putE (putE wr g (l + 1) q) g l e).drew g n (X ++ P ++ Q1' ++ e :: (([q] ++ Q2) ++ Y)) n) := by
            show RowE _ _ _ _ _
            rw [← HSET.out]
            exact ((HP.out.put hzl hkn q).put (by rw [List.length_set]; exact hzl) (by omega) e).block (drew_heap _ _)
          have HOx : Hid (OnlyG g w (putE (putE wr g (l + 1) q) g l e).drew) := HO.out.trans (((putE_only _ _ _ _).trans (putE_only _ _ _ _)).trans (OnlyG.of ((Below.refl _ _).drew)))
          have k0 : (0 : Int) ≤ (l : Int) + 1 := by omega
          have k1 : (l : Int) + 1 < (n : Int) := by omega
          have k2 : (l : Int) < (n : Int) := by omega
          have k3 : IntKind.i64.wrap ((l : Int) + 1 - 1) = (l : Int) := by rw [IntKind.wrap_i64]; omega
          have k4 : IntKind.i64.wrap (l : Int) = (l : Int) := by rw [IntKind.wrap_i64]; omega
          have k5 : (l : Int) + 1 - 1 = (l : Int) := by omega
          have k6 : ((l : Int) + 1).toNat = l + 1 := by omega
          clear hz hz2 hQ12 hk hl gp ge hzl HP HO HI2 hQ1 hQ1'
          unfold putE at HPx HOx
          go_wp2_with fail
          go_region_law (fail)
          all_goals
            clear x0 x1 x2 x3 y0 y1 y2 y3 fz
            go_wp2_with fail
            exact ⟨⟨l, Q1', [q] ++ Q2, by first | rfl | go_num, HN, HPx, HOx⟩, by simp only [intOf]; omega⟩
end Go.Proofs.YtgmfjninimebmaaGreatDoor
