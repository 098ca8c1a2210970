
import Derived.Test.YtnlmebpajjiomaeDeS
import Derived.Test.YtnlmebpajjiomaeDeP
namespace Go.Proofs.Ytnlmebpajjiomae
open Go.RowKit Go.Maps
set_option linter.unusedVariables false
set_option linter.unusedSimpArgs false

/-- What the model's reader has read: references, numbers. -/
def T1 (s : ByteArray) (n k : Nat) (xs : List Tr) (st : Option Nat) : Prop :=
  (st = none → decEd s = none) ∧ (∀ A, st = some A → ∃ c, gv s 0 = some (n, c) ∧ pRs s k c = some (xs, A))
def T2 (s : ByteArray) (m k : Nat) (xs : List Tr) (ks : List Int) (st : Option Nat) : Prop :=
  (st = none → decEd s = none) ∧ (∀ A, st = some A → ∃ n c B d j, gv s 0 = some (n, c) ∧ pRs s j c = some (xs, B) ∧ (j = n ∨ 1000 < j) ∧ j ≤ n ∧ gv s (B : Int) = some (m, d) ∧ pIs s k (B + d) = some (ks, A))
def T3 (s : ByteArray) (xs : List Tr) (ks : List Int) (st : Option Nat) : Prop :=
  (st = none → decEd s = none) ∧ (∀ A, st = some A → ∃ n c B m d j i, gv s 0 = some (n, c) ∧ pRs s j c = some (xs, B) ∧ (j = n ∨ 1000 < j) ∧ j ≤ n ∧ gv s (B : Int) = some (m, d) ∧ pIs s i (B + d) = some (ks, A) ∧ (i = m ∨ 1000 < i) ∧ i ≤ m)
theorem long0 {s : ByteArray} {n c : Nat} (h : gv s 0 = some (n, c)) (hn : 1000 < n) : decEd s = none :=
  none0 (fun n' c' h' => by rw [h] at h'; cases h'; exact hn)
theorem nN_some {s : ByteArray} {A n : Nat} {st : Option Nat} (h : nN s (some A) = (n, st)) : (∃ c, gv s (A : Int) = some (n, c) ∧ st = some (A + c)) ∨ (gv s (A : Int) = none ∧ st = none ∧ n = 0) := by
  simp only [nN] at h
  cases hg : gv s (A : Int) with
  | none => rw [hg] at h; cases h; exact .inr ⟨rfl, rfl, rfl⟩
  | some q => obtain ⟨x, c⟩ := q; rw [hg] at h; cases h; exact .inl ⟨c, rfl, rfl⟩
theorem nK_some {s : ByteArray} {A : Nat} {t : ByteArray} {st : Option Nat} (h : nK s (some A) = (t, st)) : (∃ B, pc s A = some (t, B) ∧ st = some B) ∨ (pc s A = none ∧ st = none) := by
  simp only [nK] at h
  cases hg : pc s A with
  | none => rw [hg] at h; cases h; exact .inr ⟨rfl, rfl⟩
  | some q => obtain ⟨x, c⟩ := q; rw [hg] at h; cases h; exact .inl ⟨c, rfl, rfl⟩
theorem nN_none {s : ByteArray} {n : Nat} {st : Option Nat} (h : nN s none = (n, st)) : st = none ∧ n = 0 := by cases h; exact ⟨rfl, rfl⟩
theorem nK_none {s : ByteArray} {t : ByteArray} {st : Option Nat} (h : nK s none = (t, st)) : st = none := by cases h; rfl
theorem T1_zero {s : ByteArray} {n : Nat} {st : Option Nat} (h : nN s (some 0) = (n, st)) : T1 s n 0 [] st := by
  rcases nN_some h with ⟨c, hg, rfl⟩ | ⟨hg, rfl, rfl⟩
  · refine ⟨fun h => (by cases h), fun A hA => ⟨c, hg, ?_⟩⟩
    cases hA
    simp [pRs]
  · refine ⟨fun _ => none0 (fun n c h => ?_), fun A hA => by cases hA⟩
    have hg' : gv s 0 = none := hg
    rw [hg'] at h
    cases h
theorem T1_succ {s : ByteArray} {n k A nu lv : Nat} {lo hi : ByteArray} {xs : List Tr} {s1 s2 s3 s4 : Option Nat} (h : T1 s n k xs (some A)) (hk : k < n) (e1 : nN s (some A) = (nu, s1)) (e2 : nN s s1 = (lv, s2)) (e3 : nK s s2 = (lo, s3)) (e4 : nK s s3 = (hi, s4)) :
    T1 s n (k + 1) (xs ++ [⟨nu, lv, lo, hi⟩]) s4 := by
  obtain ⟨c, h1, h2⟩ := h.2 A rfl
  have bad : pR s A = none → decEd s = none := fun hp => none1 h1 (pRs_none (k := k + 1) (by simp only [pRs, h2, hp]) n (by omega))
  rcases nN_some e1 with ⟨d1, g1, rfl⟩ | ⟨g1, rfl, -⟩
  · rcases nN_some e2 with ⟨d2, g2, rfl⟩ | ⟨g2, rfl, -⟩
    · rcases nK_some e3 with ⟨B, g3, rfl⟩ | ⟨g3, rfl⟩
      · rcases nK_some e4 with ⟨E, g4, rfl⟩ | ⟨g4, rfl⟩
        · refine ⟨fun h => (by cases h), fun A' hA => ⟨c, h1, ?_⟩⟩
          cases hA
          simp only [pRs, h2, pR, g1, g2, g3, g4]
        · exact ⟨fun _ => bad (by simp only [pR, g1, g2, g3, g4]), fun A hA => by cases hA⟩
      · obtain rfl := nK_none e4
        exact ⟨fun _ => bad (by simp only [pR, g1, g2, g3]), fun A hA => by cases hA⟩
    · obtain rfl := nK_none e3
      obtain rfl := nK_none e4
      exact ⟨fun _ => bad (by simp only [pR, g1, g2]), fun A hA => by cases hA⟩
  · obtain ⟨rfl, -⟩ := nN_none e2
    obtain rfl := nK_none e3
    obtain rfl := nK_none e4
    exact ⟨fun _ => bad (by simp only [pR, g1]), fun A hA => by cases hA⟩
theorem T2_zero {s : ByteArray} {n k m : Nat} {xs : List Tr} {st st' : Option Nat} (h : T1 s n k xs st) (hk : k ≤ n) (hend : st = none ∨ k = n ∨ 1000 < k) (e : nN s st = (m, st')) : T2 s m 0 xs [] st' := by
  cases st with
  | none =>
    obtain ⟨rfl, -⟩ := nN_none e
    exact ⟨fun _ => h.1 rfl, fun A hA => by cases hA⟩
  | some A =>
    obtain ⟨c, h1, h2⟩ := h.2 A rfl
    have hend' : k = n ∨ 1000 < k := by
      rcases hend with h | h | h
      · cases h
      · exact .inl h
      · exact .inr h
    rcases nN_some e with ⟨d, g, rfl⟩ | ⟨g, rfl, -⟩
    · refine ⟨fun h => (by cases h), fun A' hA => ⟨n, c, A, d, k, h1, h2, hend', hk, g, ?_⟩⟩
      cases hA
      simp only [pIs]
    · refine ⟨fun _ => ?_, fun A hA => by cases hA⟩
      rcases hend' with rfl | h
      · exact none2 h1 h2 (fun m d h => by rw [g] at h; cases h)
      · exact long0 h1 (by omega)
theorem T2_succ {s : ByteArray} {m k A x : Nat} {xs : List Tr} {ks : List Int} {st : Option Nat} (h : T2 s m k xs ks (some A)) (hk : k < m) (e : nN s (some A) = (x, st)) : T2 s m (k + 1) xs (ks ++ [(x : Int)]) st := by
  obtain ⟨n, c, B, d, j, h1, h2, h3, h4, h5, h6⟩ := h.2 A rfl
  rcases nN_some e with ⟨y, g, rfl⟩ | ⟨g, rfl, -⟩
  · refine ⟨fun h => (by cases h), fun A' hA => ⟨n, c, B, d, j, h1, h2, h3, h4, h5, ?_⟩⟩
    cases hA
    simp only [pIs, h6, g]
  · refine ⟨fun _ => ?_, fun A hA => by cases hA⟩
    rcases h3 with rfl | h
    · exact none3 h1 h2 h5 (pIs_none (k := k + 1) (by simp only [pIs, h6, g]) m (by omega))
    · exact long0 h1 (by omega)
theorem T3_of {s : ByteArray} {m k : Nat} {xs : List Tr} {ks : List Int} {st : Option Nat} (h : T2 s m k xs ks st) (hk : k ≤ m) (hend : st = none ∨ k = m ∨ 1000 < k) : T3 s xs ks st := by
  refine ⟨h.1, fun A hA => ?_⟩
  obtain ⟨n, c, B, d, j, h1, h2, h3, h4, h5, h6⟩ := h.2 A hA
  refine ⟨n, c, B, m, d, j, k, h1, h2, h3, h4, h5, h6, ?_, hk⟩
  rcases hend with h | h | h
  · rw [hA] at h; cases h
  · exact .inl h
  · exact .inr h
/-- The three numbers, and the end. -/
theorem T3_end {s : ByteArray} {xs : List Tr} {ks : List Int} {s0 s1 s2 s3 : Option Nat} {lg nx la : Nat} (h : T3 s xs ks s0) (e1 : nN s s0 = (lg, s1)) (e2 : nN s s1 = (nx, s2)) (e3 : nN s s2 = (la, s3)) :
    (s3 = none → decEd s = none) ∧ (∀ Z, s3 = some Z → 0 < s.size ∧ (edT ⟨xs, ks, lg, nx, la⟩ = s → decEd s = some ⟨xs, ks, lg, nx, la⟩) ∧ (edT ⟨xs, ks, lg, nx, la⟩ ≠ s → decEd s = none)) := by
  cases s0 with
  | none =>
    obtain ⟨rfl, -⟩ := nN_none e1
    obtain ⟨rfl, -⟩ := nN_none e2
    obtain ⟨rfl, -⟩ := nN_none e3
    exact ⟨fun _ => h.1 rfl, fun Z hZ => by cases hZ⟩
  | some A =>
    obtain ⟨n, c, B, m, d, j, i, h1, h2, h3, h4, h5, h6, h7, h8⟩ := h.2 A rfl
    have hpos : 0 < s.size := by
      have h1' : gv s ((0 : Nat) : Int) = some (n, c) := h1
      obtain ⟨_, a2, _, a4⟩ := gv_some h1'
      omega
    have bad : pZ s A = none → decEd s = none := fun hp => by
      rcases h3 with rfl | h3
      · rcases h7 with rfl | h7
        · exact none4 h1 h2 h5 h6 hp
        · exact none2 h1 h2 (fun m' d' h' => by rw [h5] at h'; cases h'; omega)
      · exact long0 h1 (by omega)
    rcases nN_some e1 with ⟨x1, g1, rfl⟩ | ⟨g1, rfl, -⟩
    · rcases nN_some e2 with ⟨x2, g2, rfl⟩ | ⟨g2, rfl, -⟩
      · rcases nN_some e3 with ⟨x3, g3, rfl⟩ | ⟨g3, rfl, -⟩
        · refine ⟨fun h => (by cases h), fun Z hZ => ⟨hpos, ?_⟩⟩
          have hpz : pZ s A = some (lg, nx, la, A + x1 + x2 + x3) := by simp only [pZ, g1, g2, g3]
          have h1' : gv s ((0 : Nat) : Int) = some (n, c) := h1
          obtain ⟨a1, a2, a3, a4⟩ := gv_some h1'
          rw [Nat.zero_add] at a1 a2
          have hxl := (pRs_some a2 h2).2.2.2.1
          have hcB := (gv_some h5).2.1
          have hkl := (pIs_some hcB h6).2.2.2
          cases hok : edOk ⟨xs, ks, lg, nx, la⟩ with
          | false =>
            rw [edT_bad hok]
            refine ⟨fun h => ?_, fun _ => ?_⟩
            · rw [← h] at hpos
              exact absurd hpos (by decide)
            · rcases h3 with rfl | h3
              · rcases h7 with rfl | h7
                · by_cases hn : 1000 < j
                  · exact long0 h1 hn
                  · by_cases hm : 1000 < i
                    · exact none2 h1 h2 (fun m' d' h' => by rw [h5] at h'; cases h'; exact hm)
                    · have := some4 h1 (by omega) h2 h5 (by omega) h6 hpz
                      simp only [decEd, this]
                      rw [if_neg (by rw [hok]; simp)]
                · exact none2 h1 h2 (fun m' d' h' => by rw [h5] at h'; cases h'; omega)
              · exact long0 h1 (by omega)
          | true =>
            obtain ⟨q1, -, q3, -⟩ := (edOk_iff _).1 hok
            dsimp only at q1 q3
            have hj : j = n := by omega
            have hi : i = m := by omega
            subst hj hi
            have hp := some4 h1 (by omega) h2 h5 (by omega) h6 hpz
            obtain ⟨b1, b2, -, -⟩ := ed_bytes h1 h2 h5 h6 hpz
            have hsame := ed_same b1 b2 hok
            refine ⟨fun h => ?_, fun h => ?_⟩
            · have hz := hsame.1 h
              simp only [decEd, hp]
              rw [if_pos ⟨hz, hok⟩]
            · simp only [decEd, hp]
              rw [if_neg (fun hh => h (hsame.2 hh.1))]
        · exact ⟨fun _ => bad (by simp only [pZ, g1, g2, g3]), fun Z hZ => by cases hZ⟩
      · obtain ⟨rfl, -⟩ := nN_none e3
        exact ⟨fun _ => bad (by simp only [pZ, g1, g2]), fun Z hZ => by cases hZ⟩
    · obtain ⟨rfl, -⟩ := nN_none e2
      obtain ⟨rfl, -⟩ := nN_none e3
      exact ⟨fun _ => bad (by simp only [pZ, g1]), fun Z hZ => by cases hZ⟩
theorem nK_size {s : ByteArray} {t : ByteArray} {st st' : Option Nat} (h : nK s st = (t, st')) : t.size ≤ s.size := by
  cases st with
  | none => cases h; exact Nat.zero_le _
  | some A =>
    simp only [nK] at h
    cases hg : pc s A with
    | none => rw [hg] at h; cases h; exact Nat.zero_le _
    | some q => obtain ⟨x, c⟩ := q; rw [hg] at h; cases h; exact (pc_some hg).2.2.2
theorem nN_le {s : ByteArray} {n : Nat} {st st' : Option Nat} (h : nN s st = (n, st')) : n ≤ 72057594037927935 := by
  cases st with
  | none => cases h; exact Nat.zero_le _
  | some A =>
    rcases nN_some h with ⟨c, hg, rfl⟩ | ⟨hg, rfl, rfl⟩
    · exact (gv_some hg).2.2.1
    · exact Nat.zero_le _
end Go.Proofs.Ytnlmebpajjiomae
