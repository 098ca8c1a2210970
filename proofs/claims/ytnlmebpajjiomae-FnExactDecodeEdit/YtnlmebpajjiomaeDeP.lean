
import Derived.Test.YtnlmebpajjiomaeDeI
namespace Go.Proofs.Ytnlmebpajjiomae
open Go.RowKit Go.Maps
set_option linter.unusedVariables false
set_option linter.unusedSimpArgs false

/-- How far the reading has come. -/
def S1 (s : ByteArray) (n k : Nat) (xs : List Tr) (A : Nat) (fl : Bool) : Prop :=
  (fl = true → decEd s = none) ∧ (fl = false → ∃ c, gv s 0 = some (n, c) ∧ n ≤ 1000 ∧ pRs s k c = some (xs, A))
def S2 (s : ByteArray) (m k : Nat) (xs : List Tr) (ks : List Int) (A : Nat) (fl : Bool) : Prop :=
  (fl = true → decEd s = none) ∧ (fl = false → ∃ n c B d, gv s 0 = some (n, c) ∧ n ≤ 1000 ∧ pRs s n c = some (xs, B) ∧ gv s (B : Int) = some (m, d) ∧ m ≤ 1000 ∧ pIs s k (B + d) = some (ks, A))
def S3 (s : ByteArray) (xs : List Tr) (ks : List Int) (A : Nat) (fl : Bool) : Prop :=
  (fl = true → decEd s = none) ∧ (fl = false → ∃ n c B m d, gv s 0 = some (n, c) ∧ n ≤ 1000 ∧ pRs s n c = some (xs, B) ∧ gv s (B : Int) = some (m, d) ∧ m ≤ 1000 ∧ pIs s m (B + d) = some (ks, A))
theorem none0 {s : ByteArray} (h : ∀ n c, gv s 0 = some (n, c) → 1000 < n) : decEd s = none := by
  have : pE s = none := by
    unfold pE
    cases hg : gv s 0 with
    | none => rfl
    | some q => simp only [if_pos (h q.1 q.2 hg)]
  simp only [decEd, this]
theorem none1 {s : ByteArray} {n c : Nat} (h1 : gv s 0 = some (n, c)) (h2 : pRs s n c = none) : decEd s = none := by
  have : pE s = none := by
    simp only [pE, h1, h2]
    split <;> rfl
  simp only [decEd, this]
theorem none2 {s : ByteArray} {n c B : Nat} {xs : List Tr} (h1 : gv s 0 = some (n, c)) (h2 : pRs s n c = some (xs, B)) (h3 : ∀ m d, gv s (B : Int) = some (m, d) → 1000 < m) : decEd s = none := by
  have : pE s = none := by
    simp only [pE, h1, h2]
    split
    · rfl
    · cases hg : gv s (B : Int) with
      | none => rfl
      | some q => simp only [if_pos (h3 q.1 q.2 hg)]
  simp only [decEd, this]
theorem none3 {s : ByteArray} {n c B m d : Nat} {xs : List Tr} (h1 : gv s 0 = some (n, c)) (h2 : pRs s n c = some (xs, B)) (h3 : gv s (B : Int) = some (m, d)) (h4 : pIs s m (B + d) = none) : decEd s = none := by
  have : pE s = none := by
    simp only [pE, h1, h2, h3, h4]
    split
    · rfl
    · split <;> rfl
  simp only [decEd, this]
theorem none4 {s : ByteArray} {n c B m d E : Nat} {xs : List Tr} {ks : List Int} (h1 : gv s 0 = some (n, c)) (h2 : pRs s n c = some (xs, B)) (h3 : gv s (B : Int) = some (m, d)) (h4 : pIs s m (B + d) = some (ks, E)) (h5 : pZ s E = none) : decEd s = none := by
  have : pE s = none := by
    simp only [pE, h1, h2, h3, h4, h5]
    split
    · rfl
    · split <;> rfl
  simp only [decEd, this]
theorem some4 {s : ByteArray} {n c B m d E lg nx la Z : Nat} {xs : List Tr} {ks : List Int} (h1 : gv s 0 = some (n, c)) (hn : n ≤ 1000) (h2 : pRs s n c = some (xs, B)) (h3 : gv s (B : Int) = some (m, d)) (hm : m ≤ 1000) (h4 : pIs s m (B + d) = some (ks, E)) (h5 : pZ s E = some (lg, nx, la, Z)) :
    pE s = some (⟨xs, ks, lg, nx, la⟩, Z) := by
  simp only [pE, h1, h2, h3, h4, h5]
  rw [if_neg (by omega), if_neg (by omega)]

theorem S1_zero (s : ByteArray) : S1 s (rdC s 1000 0 false).1 0 [] (rdC s 1000 0 false).2.1 (rdC s 1000 0 false).2.2 := by
  rcases rdC_gv s 1000 0 with ⟨n, c, hg, hn, hr⟩ | ⟨hg, hr⟩
  · rw [hr]
    refine ⟨fun h => (by cases h), fun _ => ⟨c, hg, hn, ?_⟩⟩
    simp [pRs]
  · rw [hr]
    exact ⟨fun _ => none0 hg, fun h => by cases h⟩
theorem S1_succ {s : ByteArray} {n k A : Nat} {xs : List Tr} {fl : Bool} (h : S1 s n k xs A fl) (hk : k < n) : S1 s n (k + 1) (xs ++ [(rdR s A fl).1]) (rdR s A fl).2.1 (rdR s A fl).2.2 := by
  cases fl with
  | true =>
    have := rdR_fl s A
    exact ⟨fun _ => h.1 rfl, fun h => by rw [this] at h; cases h⟩
  | false =>
    obtain ⟨c, h1, h2, h3⟩ := h.2 rfl
    rcases rdR_pR s A with ⟨t, E, hp, hr⟩ | ⟨hp, hr⟩
    · rw [hr]
      exact ⟨fun h => (by cases h), fun _ => ⟨c, h1, h2, by simp only [pRs, h3, hp]⟩⟩
    · refine ⟨fun _ => none1 h1 (pRs_none (k := k + 1) (by simp only [pRs, h3, hp]) n (by omega)), fun h => by rw [hr] at h; cases h⟩
theorem rdC_fl (s : ByteArray) (M A : Nat) : (rdC s M A true).2.2 = true := by
  unfold rdC
  split
  · rfl
  · exact rdN_fl s A
theorem S2_zero {s : ByteArray} {n A : Nat} {xs : List Tr} {fl : Bool} (h : S1 s n n xs A fl) : S2 s (rdC s 1000 A fl).1 0 xs [] (rdC s 1000 A fl).2.1 (rdC s 1000 A fl).2.2 := by
  cases fl with
  | true =>
    have := rdC_fl s 1000 A
    exact ⟨fun _ => h.1 rfl, fun h => by rw [this] at h; cases h⟩
  | false =>
    obtain ⟨c, h1, h2, h3⟩ := h.2 rfl
    rcases rdC_gv s 1000 A with ⟨m, d, hg, hm, hr⟩ | ⟨hg, hr⟩
    · rw [hr]
      exact ⟨fun h => (by cases h), fun _ => ⟨n, c, A, d, h1, h2, h3, hg, hm, by simp only [pIs]⟩⟩
    · rw [hr]
      exact ⟨fun _ => none2 h1 h3 hg, fun h => by cases h⟩
theorem S2_succ {s : ByteArray} {m k A : Nat} {xs : List Tr} {ks : List Int} {fl : Bool} (h : S2 s m k xs ks A fl) (hk : k < m) : S2 s m (k + 1) xs (ks ++ [((rdN s A fl).1 : Int)]) (rdN s A fl).2.1 (rdN s A fl).2.2 := by
  cases fl with
  | true =>
    have := rdN_fl s A
    exact ⟨fun _ => h.1 rfl, fun h => by rw [this] at h; cases h⟩
  | false =>
    obtain ⟨n, c, B, d, h1, h2, h3, h4, h5, h6⟩ := h.2 rfl
    rcases rdN_gv s A with ⟨x, y, hp, hr⟩ | ⟨hp, hr⟩
    · rw [hr]
      exact ⟨fun h => (by cases h), fun _ => ⟨n, c, B, d, h1, h2, h3, h4, h5, by simp only [pIs, h6, hp]⟩⟩
    · exact ⟨fun _ => none3 h1 h3 h4 (pIs_none (k := k + 1) (by simp only [pIs, h6, hp]) m (by omega)), fun h => by rw [hr] at h; cases h⟩
theorem S3_of {s : ByteArray} {m A : Nat} {xs : List Tr} {ks : List Int} {fl : Bool} (h : S2 s m m xs ks A fl) : S3 s xs ks A fl :=
  ⟨h.1, fun hf => by obtain ⟨n, c, B, d, h1, h2, h3, h4, h5, h6⟩ := h.2 hf; exact ⟨n, c, B, m, d, h1, h2, h3, h4, h5, h6⟩⟩
theorem S3_end {s : ByteArray} {A : Nat} {xs : List Tr} {ks : List Int} {fl : Bool} (h : S3 s xs ks A fl) {r1 r2 r3 : Nat × Nat × Bool} (e1 : rdN s A fl = r1) (e2 : rdN s r1.2.1 r1.2.2 = r2) (e3 : rdN s r2.2.1 r2.2.2 = r3) :
    (r3.2.2 = true → decEd s = none) ∧ (r3.2.2 = false → pE s = some (⟨xs, ks, r1.1, r2.1, r3.1⟩, r3.2.1)) := by
  cases fl with
  | true =>
    have f1 : r1.2.2 = true := by rw [← e1]; exact rdN_fl s A
    have f2 : r2.2.2 = true := by rw [← e2, f1]; exact rdN_fl s _
    have f3 : r3.2.2 = true := by rw [← e3, f2]; exact rdN_fl s _
    exact ⟨fun _ => h.1 rfl, fun h => by rw [f3] at h; cases h⟩
  | false =>
    obtain ⟨n, c, B, m, d, h1, h2, h3, h4, h5, h6⟩ := h.2 rfl
    rcases rdN_gv s A with ⟨lg, x, hp, hr⟩ | ⟨hp, hr⟩
    · rw [hr] at e1
      subst e1
      dsimp only at e2
      rcases rdN_gv s (A + x) with ⟨nx, y, hp2, hr2⟩ | ⟨hp2, hr2⟩
      · rw [hr2] at e2
        subst e2
        dsimp only at e3
        rcases rdN_gv s (A + x + y) with ⟨la, z, hp3, hr3⟩ | ⟨hp3, hr3⟩
        · rw [hr3] at e3
          subst e3
          exact ⟨fun h => (by cases h), fun _ => some4 h1 h2 h3 h4 h5 h6 (by simp only [pZ, hp, hp2, hp3])⟩
        · rw [e3] at hr3
          exact ⟨fun _ => none4 h1 h3 h4 h6 (by simp only [pZ, hp, hp2, hp3]), fun h => by rw [hr3] at h; cases h⟩
      · rw [e2] at hr2
        have f3 : r3.2.2 = true := by rw [← e3, hr2]; exact rdN_fl s _
        exact ⟨fun _ => none4 h1 h3 h4 h6 (by simp only [pZ, hp, hp2]), fun h => by rw [f3] at h; cases h⟩
    · rw [e1] at hr
      have f2 : r2.2.2 = true := by rw [← e2, hr]; exact rdN_fl s _
      have f3 : r3.2.2 = true := by rw [← e3, f2]; exact rdN_fl s _
      exact ⟨fun _ => none4 h1 h3 h4 h6 (by simp only [pZ, hp]), fun h => by rw [f3] at h; cases h⟩
/-- Two rows of different kinds lie in different blocks. -/
theorem owns_ne {w : World} {B B' n n' z z' : Nat} {t t' : TypeId} {v v' : Value} {xs xs' : List Value} (h : w.ownsRow B t z v n xs) (h' : w.ownsRow B' t' z' v' n' xs') (ht : t ≠ t') : ∀ g, v.ownBlock = some g → v'.ownBlock ≠ some g := by
  intro g hg hg'
  rcases h.2 with ⟨rfl, _⟩ | ⟨b, cap, cur, rfl, _, hb, _⟩
  · cases hg
  · rcases h'.2 with ⟨rfl, _⟩ | ⟨b', cap', cur', rfl, _, hb', _⟩
    · cases hg'
    · simp [Value.ownBlock] at hg hg'
      subst hg hg'
      rw [hb] at hb'
      simp at hb'
      exact ht hb'.2
theorem owns_lt {w : World} {B n size : Nat} {e : TypeId} {v : Value} {xs : List Value} (h : w.ownsRow B e size v n xs) : ∀ k, v.ownBlock = some k → k < w.heap.size := by
  intro k hk
  rcases h.2 with ⟨rfl, _⟩ | ⟨g, cap, cur, rfl, hg, hb, _⟩
  · cases hk
  · simp [Value.ownBlock] at hk
    subst hk
    exact heap_lt hb
end Go.Proofs.Ytnlmebpajjiomae
