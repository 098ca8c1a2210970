import Derived.Test.YtgkhjjnhikbdaaaTbF

import Derived.Test.YtgkhjjnhikbdaaaProg
namespace Go.Proofs.Ytgkhjjnhikbdaaa
set_option linter.unusedVariables false
set_option linter.unusedSimpArgs false

/-- A strict weak order. -/
structure Swo {α : Type} (lt : α → α → Bool) : Prop where
  irr : ∀ a, lt a a = false
  tr : ∀ a b c, lt a b = true → lt b c = true → lt a c = true
  neg : ∀ a b c, lt a b = false → lt b c = false → lt a c = false
variable {α : Type} {lt : α → α → Bool}
/-- Neither comes before the other. -/
def eqv (lt : α → α → Bool) (c x : α) : Bool := !lt c x && !lt x c
/-- The same members of each class in the same order. -/
def Sm (lt : α → α → Bool) (xs ys : List α) : Prop := ∀ c, xs.filter (eqv lt c) = ys.filter (eqv lt c)
def Srtd (lt : α → α → Bool) (xs : List α) : Prop := xs.Pairwise fun a b => lt b a = false
theorem Sm.refl (xs : List α) : Sm lt xs xs := fun _ => rfl
theorem Sm.symm {xs ys : List α} (h : Sm lt xs ys) : Sm lt ys xs := fun c => (h c).symm
theorem Sm.trans {xs ys zs : List α} (h : Sm lt xs ys) (k : Sm lt ys zs) : Sm lt xs zs := fun c => (h c).trans (k c)
theorem Sm.app {xs ys us vs : List α} (h : Sm lt xs ys) (k : Sm lt us vs) : Sm lt (xs ++ us) (ys ++ vs) := fun c => by rw [List.filter_append, List.filter_append, h c, k c]
theorem Sm.cons (x : α) {xs ys : List α} (h : Sm lt xs ys) : Sm lt (x :: xs) (x :: ys) := Sm.app (Sm.refl [x]) h
theorem eqv_self (h : Swo lt) (x : α) : eqv lt x x = true := by simp [eqv, h.irr]
theorem Swo.asy (h : Swo lt) {a b : α} (hab : lt a b = true) : lt b a = false := by
  cases hb : lt b a with
  | false => rfl
  | true => have := h.tr a b a hab hb; rw [h.irr] at this; cases this
theorem eqv_no (h : Swo lt) {c x y : α} (h1 : eqv lt c x = true) (h2 : eqv lt c y = true) : lt x y = false ∧ lt y x = false := by
  simp only [eqv, Bool.and_eq_true, Bool.not_eq_true'] at h1 h2
  exact ⟨h.neg x c y h1.2 h2.1, h.neg y c x h2.2 h1.1⟩
/-- Two rows change places, where each of the second comes before each of the first. -/
theorem Sm.blocks (h : Swo lt) {xs ys : List α} (hlt : ∀ x ∈ xs, ∀ y ∈ ys, lt y x = true) : Sm lt (xs ++ ys) (ys ++ xs) := fun c => by
  rw [List.filter_append, List.filter_append]
  cases hx : xs.filter (eqv lt c) with
  | nil => simp
  | cons x r =>
    have hxm : x ∈ xs.filter (eqv lt c) := by rw [hx]; simp
    obtain ⟨hx1, hx2⟩ := List.mem_filter.1 hxm
    have hy : ys.filter (eqv lt c) = [] := List.filter_eq_nil_iff.2 (fun y hy hc => by
      have := (eqv_no h hx2 hc).2
      rw [hlt x hx1 y hy] at this
      cases this)
    rw [hy]; simp
theorem Sm.mem {xs ys : List α} (hs : Swo lt) (h : Sm lt xs ys) {x : α} (hx : x ∈ xs) : x ∈ ys := by
  have h1 : x ∈ xs.filter (eqv lt x) := List.mem_filter.2 ⟨hx, eqv_self hs x⟩
  rw [h x] at h1
  exact (List.mem_filter.1 h1).1
/-- There is one order that keeps the classes as they stand. -/
theorem sm_uniq (hs : Swo lt) : ∀ {xs ys : List α}, Srtd lt xs → Srtd lt ys → Sm lt xs ys → xs = ys
  | [], [], _, _, _ => rfl
  | [], y :: ys, _, _, h => by have := h.symm.mem hs (x := y) (by simp); simp at this
  | x :: xs, [], _, _, h => by have := h.mem hs (x := x) (by simp); simp at this
  | x :: xs, y :: ys, hx, hy, h => by
    have hyx : lt y x = false := by
      have hm := h.symm.mem hs (x := y) (by simp)
      rcases List.mem_cons.1 hm with e | hm
      · rw [e]; exact hs.irr _
      · exact (List.pairwise_cons.1 hx).1 y hm
    have hxy : lt x y = false := by
      have hm := h.mem hs (x := x) (by simp)
      rcases List.mem_cons.1 hm with e | hm
      · rw [e]; exact hs.irr _
      · exact (List.pairwise_cons.1 hy).1 x hm
    have he : x = y := by
      have h1 := h x
      rw [List.filter_cons, if_pos (eqv_self hs x), List.filter_cons, if_pos (by simp [eqv, hxy, hyx])] at h1
      exact (List.cons.inj h1).1
    subst he
    have ht : Sm lt xs ys := fun c => by
      have h1 := h c
      rw [List.filter_cons, List.filter_cons] at h1
      by_cases hc : eqv lt c x = true
      · rw [if_pos hc, if_pos hc] at h1; exact (List.cons.inj h1).2
      · rw [if_neg hc, if_neg hc] at h1; exact h1
    rw [sm_uniq hs (List.pairwise_cons.1 hx).2 (List.pairwise_cons.1 hy).2 ht]
/-- One more, ahead of its equals. -/
def insE (lt : α → α → Bool) (x : α) : List α → List α
  | [] => [x]
  | y :: r => if lt y x = true then y :: insE lt x r else x :: y :: r
def srt (lt : α → α → Bool) : List α → List α
  | [] => []
  | x :: r => insE lt x (srt lt r)
theorem insE_mem {x z : α} {l : List α} (h : z ∈ insE lt x l) : z = x ∨ z ∈ l := by
  induction l with
  | nil => simp [insE] at h; exact .inl h
  | cons y r ih =>
    unfold insE at h
    split at h
    · rcases List.mem_cons.1 h with h | h
      · exact .inr (by simp [h])
      · rcases ih h with h | h
        · exact .inl h
        · exact .inr (by simp [h])
    · rcases List.mem_cons.1 h with h | h
      · exact .inl h
      · exact .inr h
theorem insE_srtd (hs : Swo lt) (x : α) {l : List α} (h : Srtd lt l) : Srtd lt (insE lt x l) := by
  induction l with
  | nil => exact List.pairwise_singleton _ _
  | cons y r ih =>
    obtain ⟨h1, h2⟩ := List.pairwise_cons.1 h
    unfold insE
    split
    · rename_i hyx
      refine List.pairwise_cons.2 ⟨fun z hz => ?_, ih h2⟩
      rcases insE_mem hz with rfl | hz
      · exact hs.asy hyx
      · exact h1 z hz
    · rename_i hyx
      have hyx' : lt y x = false := by simpa using hyx
      refine List.pairwise_cons.2 ⟨fun z hz => ?_, h⟩
      rcases List.mem_cons.1 hz with rfl | hz
      · exact hyx'
      · exact hs.neg z y x (h1 z hz) hyx'
theorem insE_sm (hs : Swo lt) (x : α) (l : List α) : Sm lt (x :: l) (insE lt x l) := by
  induction l with
  | nil => exact Sm.refl _
  | cons y r ih =>
    unfold insE
    split
    · rename_i hyx
      have h1 : Sm lt ([x] ++ [y]) ([y] ++ [x]) := Sm.blocks hs (by simpa using hyx)
      exact (Sm.app h1 (Sm.refl r)).trans (Sm.cons y ih)
    · exact Sm.refl _
theorem srt_ok (hs : Swo lt) (xs : List α) : Srtd lt (srt lt xs) ∧ Sm lt xs (srt lt xs) := by
  induction xs with
  | nil => exact ⟨List.Pairwise.nil, Sm.refl _⟩
  | cons x r ih => exact ⟨insE_srtd hs x ih.1, (Sm.cons x ih.2).trans (insE_sm hs x _)⟩
theorem srt_of (hs : Swo lt) {xs ys : List α} (h1 : Srtd lt ys) (h2 : Sm lt xs ys) : ys = srt lt xs := sm_uniq hs h1 (srt_ok hs xs).1 (h2.symm.trans (srt_ok hs xs).2)
/-- Two rows made one; of equals that of the first goes first. -/
def mrg (lt : α → α → Bool) : List α → List α → List α
  | [], b => b
  | x :: a, [] => x :: a
  | x :: a, y :: b => if lt y x = true then y :: mrg lt (x :: a) b else x :: mrg lt a (y :: b)
  termination_by a b => a.length + b.length
theorem mrg_nil (a : List α) : mrg lt a [] = a := by cases a <;> simp [mrg]
theorem mrg_mem {z : α} : ∀ (a b : List α), z ∈ mrg lt a b → z ∈ a ∨ z ∈ b
  | [], b => fun h => by rw [mrg] at h; exact .inr h
  | x :: a, [] => fun h => by rw [mrg] at h; exact .inl h
  | x :: a, y :: b => fun h => by
    rw [mrg] at h
    split at h
    · rcases List.mem_cons.1 h with h | h
      · exact .inr (by simp [h])
      · rcases mrg_mem (x :: a) b h with h | h
        · exact .inl h
        · exact .inr (by simp [h])
    · rcases List.mem_cons.1 h with h | h
      · exact .inl (by simp [h])
      · rcases mrg_mem a (y :: b) h with h | h
        · exact .inl (by simp [h])
        · exact .inr h
  termination_by a b => a.length + b.length
theorem mrg_ok (hs : Swo lt) : ∀ (a b : List α), Srtd lt a → Srtd lt b → Srtd lt (mrg lt a b) ∧ Sm lt (a ++ b) (mrg lt a b)
  | [], b => fun _ hb => by rw [mrg]; exact ⟨hb, Sm.refl _⟩
  | x :: a, [] => fun ha _ => by rw [mrg, List.append_nil]; exact ⟨ha, Sm.refl _⟩
  | x :: a, y :: b => fun ha hb => by
    obtain ⟨ha1, ha2⟩ := List.pairwise_cons.1 ha
    obtain ⟨hb1, hb2⟩ := List.pairwise_cons.1 hb
    rw [mrg]
    split
    · rename_i hyx
      obtain ⟨h1, h2⟩ := mrg_ok hs (x :: a) b ha hb2
      have hay : ∀ z ∈ x :: a, lt y z = true := fun z hz => by
        rcases List.mem_cons.1 hz with rfl | hz
        · exact hyx
        · cases hyz : lt y z with
          | true => rfl
          | false => have := hs.neg y z x hyz (ha1 z hz); rw [hyx] at this; cases this
      refine ⟨List.pairwise_cons.2 ⟨fun z hz => ?_, h1⟩, ?_⟩
      · rcases mrg_mem _ _ hz with hz | hz
        · exact hs.asy (hay z hz)
        · exact hb1 z hz
      · have e : Sm lt ((x :: a) ++ [y]) ([y] ++ (x :: a)) := Sm.blocks hs (fun z hz w hw => by
          have : w = y := by simpa using hw
          subst this; exact hay z hz)
        have e2 : (x :: a) ++ y :: b = ((x :: a) ++ [y]) ++ b := by simp
        rw [e2]
        exact (Sm.app e (Sm.refl b)).trans (Sm.cons y h2)
    · rename_i hyx
      have hyx' : lt y x = false := by simpa using hyx
      obtain ⟨h1, h2⟩ := mrg_ok hs a (y :: b) ha2 hb
      refine ⟨List.pairwise_cons.2 ⟨fun z hz => ?_, h1⟩, Sm.cons x h2⟩
      rcases mrg_mem _ _ hz with hz | hz
      · exact ha1 z hz
      · rcases List.mem_cons.1 hz with rfl | hz
        · exact hyx'
        · exact hs.neg z y x (hb1 z hz) hyx'
  termination_by a b => a.length + b.length
theorem mrg_srt (hs : Swo lt) (a b : List α) : mrg lt (srt lt a) (srt lt b) = srt lt (a ++ b) := by
  obtain ⟨h1, h2⟩ := mrg_ok hs _ _ (srt_ok hs a).1 (srt_ok hs b).1
  exact srt_of hs h1 ((Sm.app (srt_ok hs a).2 (srt_ok hs b).2).trans h2)
end Go.Proofs.Ytgkhjjnhikbdaaa
