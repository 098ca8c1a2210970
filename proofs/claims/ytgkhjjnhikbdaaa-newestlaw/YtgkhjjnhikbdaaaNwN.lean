import Derived.Test.YtgkhjjnhikbdaaaNwM
namespace Go.Proofs.Ytgkhjjnhikbdaaa
open Go.RowKit Go.Maps
set_option linter.unusedVariables false
set_option linter.unusedSimpArgs false

/-- Blocks of k entries, each sorted. -/
def Bks (k : Nat) (L : List (List En)) : Prop := ∀ B ∈ L, B.length = k ∧ Srtd befE B
theorem Bks.len {k : Nat} {L : List (List En)} (h : Bks k L) : L.flatten.length = L.length * k := by
  induction L with
  | nil => simp
  | cons B L ih =>
    rw [List.flatten_cons, List.length_append, (h B (by simp)).1, ih (fun C hC => h C (by simp [hC])), List.length_cons, Nat.add_mul]; omega
theorem Bks.snoc {k : Nat} {L : List (List En)} (h : Bks k L) {B : List En} (h1 : B.length = k) (h2 : Srtd befE B) : Bks k (L ++ [B]) := fun C hC => by
  rcases List.mem_append.1 hC with hC | hC
  · exact h C hC
  · have : C = B := by simpa using hC
    subst this; exact ⟨h1, h2⟩
theorem sm_mid {X A B Y : List En} : Sm befE (X ++ A ++ B ++ Y) (X ++ srt befE (A ++ B) ++ Y) := by
  have h := Sm.app (Sm.app (Sm.refl X) (srt_ok befE_swo (A ++ B)).2) (Sm.refl (lt := befE) Y)
  simpa using h
theorem sm_one {X A Y : List En} : Sm befE (X ++ A ++ Y) (X ++ srt befE A ++ Y) := Sm.app (Sm.app (Sm.refl X) (srt_ok befE_swo A).2) (Sm.refl Y)
/-- How far the first loop has come. -/
structure St1 (xs zs : List En) (n a : Nat) (L : List (List En)) (R : List En) : Prop where
  e : zs = L.flatten ++ R
  b : Bks 20 L
  a : a = L.length * 20
  s : Sm befE xs zs
  l : zs.length = n
/-- All in blocks of k, a rest that is shorter behind them. -/
structure St2 (xs zs : List En) (n k : Nat) (L : List (List En)) (T : List En) : Prop where
  e : zs = L.flatten ++ T
  b : Bks k L
  t : T.length < k
  st : Srtd befE T
  s : Sm befE xs zs
  l : zs.length = n
structure St3 (xs zs : List En) (n k a : Nat) (L M : List (List En)) (T : List En) : Prop where
  e : zs = L.flatten ++ M.flatten ++ T
  b : Bks (2 * k) L
  c : Bks k M
  a : a = L.length * (2 * k)
  t : T.length < k
  st : Srtd befE T
  s : Sm befE xs zs
  l : zs.length = n
theorem St1.len {xs zs : List En} {n a : Nat} {L : List (List En)} {R : List En} (h : St1 xs zs n a L R) : a + R.length = n ∧ L.flatten.length = a := by
  have h1 := h.b.len
  have h2 := h.l
  rw [h.e, List.length_append, h1, ← h.a] at h2
  exact ⟨h2, by rw [h1, h.a]⟩
theorem St1.step {xs zs : List En} {n a : Nat} {L : List (List En)} {R : List En} (h : St1 xs zs n a L R) (hb : a + 20 ≤ n) :
    ∃ S Y, R = S ++ Y ∧ S ≠ [] ∧ zs = L.flatten ++ S ++ Y ∧ a = L.flatten.length ∧ a + 20 = L.flatten.length + S.length ∧ St1 xs (L.flatten ++ srt befE S ++ Y) n (a + 20) (L ++ [srt befE S]) Y := by
  obtain ⟨h1, h2⟩ := h.len
  have hS : (R.take 20).length = 20 := by rw [List.length_take]; omega
  have hR : R = R.take 20 ++ R.drop 20 := (List.take_append_drop _ _).symm
  have hz : zs = L.flatten ++ R.take 20 ++ R.drop 20 := by rw [h.e, List.append_assoc, List.take_append_drop]
  refine ⟨R.take 20, R.drop 20, hR, fun h0 => by rw [h0] at hS; simp at hS, hz, h2.symm, by omega, ⟨by simp, h.b.snoc (by rw [srt_length, hS]) (srt_ok befE_swo _).1, by rw [List.length_append, h.a]; simp [Nat.add_mul], ?_, ?_⟩⟩
  · have := h.s; rw [hz] at this; exact this.trans sm_one
  · have := h.l; rw [hz] at this; simp [srt_length] at this ⊢; omega
theorem St1.last {xs zs : List En} {n a : Nat} {L : List (List En)} {R : List En} (h : St1 xs zs n a L R) (hb : ¬ a + 20 ≤ n) :
    zs = L.flatten ++ R ++ [] ∧ a = L.flatten.length ∧ n = L.flatten.length + R.length ∧ St2 xs (L.flatten ++ srt befE R ++ []) n 20 L (srt befE R) := by
  obtain ⟨h1, h2⟩ := h.len
  have hz : zs = L.flatten ++ R ++ [] := by rw [h.e]; simp
  refine ⟨hz, h2.symm, by omega, ⟨by simp, h.b, by rw [srt_length]; omega, (srt_ok befE_swo _).1, ?_, ?_⟩⟩
  · have := h.s; rw [hz] at this; exact this.trans sm_one
  · have := h.l; rw [hz] at this; simp [srt_length] at this ⊢; omega
theorem St2.begin {xs zs : List En} {n k : Nat} {L : List (List En)} {T : List En} (h : St2 xs zs n k L T) : St3 xs zs n k 0 [] L T :=
  ⟨by rw [h.e]; simp, fun B hB => by simp at hB, h.b, by simp, h.t, h.st, h.s, h.l⟩
theorem St3.len {xs zs : List En} {n k a : Nat} {L M : List (List En)} {T : List En} (h : St3 xs zs n k a L M T) : a + M.length * k + T.length = n ∧ L.flatten.length = a := by
  have h1 := h.b.len
  have h2 := h.l
  have h3 := h.c.len
  rw [h.e, List.length_append, List.length_append, h1, h3, ← h.a] at h2
  exact ⟨h2, by rw [h1, h.a]⟩
theorem St3.step {xs zs : List En} {n k a : Nat} {L M : List (List En)} {T : List En} (h : St3 xs zs n k a L M T) (hk : 0 < k) (hb : a + 2 * k ≤ n) :
    ∃ A B Y M', zs = L.flatten ++ A ++ B ++ Y ∧ 0 < A.length ∧ 0 < B.length ∧ Srtd befE A ∧ Srtd befE B ∧ a = L.flatten.length ∧ a + k = L.flatten.length + A.length ∧ a + 2 * k = L.flatten.length + A.length + B.length ∧ St3 xs (L.flatten ++ srt befE (A ++ B) ++ Y) n k (a + 2 * k) (L ++ [srt befE (A ++ B)]) M' T := by
  obtain ⟨h1, h2⟩ := h.len
  have ht := h.t
  match M, h with
  | [], h => simp at h1; omega
  | [A], h => simp at h1; omega
  | A :: B :: M', h =>
    obtain ⟨lA, sA⟩ := h.c A (by simp)
    obtain ⟨lB, sB⟩ := h.c B (by simp)
    have hz : zs = L.flatten ++ A ++ B ++ (M'.flatten ++ T) := by rw [h.e]; simp
    have hl : (srt befE (A ++ B)).length = 2 * k := by rw [srt_length, List.length_append, lA, lB]; omega
    refine ⟨A, B, M'.flatten ++ T, M', hz, by omega, by omega, sA, sB, h2.symm, by omega, by omega, ⟨by simp, h.b.snoc hl (srt_ok befE_swo _).1, fun C hC => h.c C (by simp [hC]), ?_, h.t, h.st, ?_, ?_⟩⟩
    · rw [List.length_append, h.a, Nat.add_mul]; simp
    · have := h.s; rw [hz] at this; exact this.trans sm_mid
    · have := h.l; rw [hz] at this; simp [srt_length] at this ⊢; omega
theorem St3.odd {xs zs : List En} {n k a : Nat} {L M : List (List En)} {T : List En} (h : St3 xs zs n k a L M T) (hk : 0 < k) (hb : ¬ a + 2 * k ≤ n) (hm : a + k < n) :
    ∃ A, zs = L.flatten ++ A ++ T ++ [] ∧ 0 < A.length ∧ 0 < T.length ∧ Srtd befE A ∧ a = L.flatten.length ∧ a + k = L.flatten.length + A.length ∧ n = L.flatten.length + A.length + T.length ∧ St2 xs (L.flatten ++ srt befE (A ++ T) ++ []) n (2 * k) L (srt befE (A ++ T)) := by
  obtain ⟨h1, h2⟩ := h.len
  have ht := h.t
  match M, h with
  | [], h => simp at h1; omega
  | A :: B :: M', h => simp [Nat.add_mul] at h1; omega
  | [A], h =>
    obtain ⟨lA, sA⟩ := h.c A (by simp)
    simp at h1
    have hz : zs = L.flatten ++ A ++ T ++ [] := by rw [h.e]; simp
    refine ⟨A, hz, by omega, by omega, sA, h2.symm, by omega, by omega, ⟨by simp, h.b, by rw [srt_length, List.length_append, lA]; omega, (srt_ok befE_swo _).1, ?_, ?_⟩⟩
    · have := h.s; rw [hz] at this; exact this.trans sm_mid
    · have := h.l; rw [hz] at this; simp [srt_length] at this ⊢; omega
theorem St3.even {xs zs : List En} {n k a : Nat} {L M : List (List En)} {T : List En} (h : St3 xs zs n k a L M T) (hk : 0 < k) (hb : ¬ a + 2 * k ≤ n) (hm : ¬ a + k < n) :
    ∃ T', St2 xs zs n (2 * k) L T' := by
  obtain ⟨h1, h2⟩ := h.len
  have ht := h.t
  match M, h with
  | [], h => exact ⟨T, ⟨by rw [h.e]; simp, h.b, by omega, h.st, h.s, h.l⟩⟩
  | A :: B :: M', h => simp [Nat.add_mul] at h1; omega
  | [A], h =>
    obtain ⟨lA, sA⟩ := h.c A (by simp)
    simp at h1
    have hT : T = [] := List.length_eq_zero_iff.1 (by omega)
    exact ⟨A, ⟨by rw [h.e, hT]; simp, h.b, by omega, sA, h.s, h.l⟩⟩
theorem St2.done {xs zs : List En} {n k : Nat} {L : List (List En)} {T : List En} (h : St2 xs zs n k L T) (hk : 0 < k) (hb : ¬ k < n) : zs = srt befE xs := by
  have h1 := h.b.len
  have h2 := h.l
  rw [h.e, List.length_append, h1] at h2
  have hz : Srtd befE zs := by
    match L, h with
    | [], h => have := h.e; simp at this; rw [this]; exact h.st
    | A :: B :: M, h => simp [Nat.add_mul] at h2; omega
    | [A], h =>
      simp at h2
      have hT : T = [] := List.length_eq_zero_iff.1 (by omega)
      have := h.e
      rw [hT] at this
      simp at this
      rw [this]; exact (h.b A (by simp)).2
  exact srt_of befE_swo hz h.s
/-- No entries at all: nothing is done. -/
theorem insSort_none (g n cap : Nat) (w : World) (a : Nat) (hn : a ≤ 1048576) (fv : Value) :
    Calls Try.prog 51 #[.slice (some ⟨g, 0, none⟩) n cap, .int .i64 a, .int .i64 a, fv] w fun ee w' => (∃ v, ee = .returned v) ∧ w' = w := by
  have h1 : ¬ ((a : Int) + 1 < (a : Int)) := by omega
  go_enter Try.func51, Try.ntmps51
  go_wp2_with fail
  go_loopw [8] (fun v W => v = .int .i64 ((a : Int) + 1) ∧ W = w) (fun _ _ => 0)
  case atStart => exact ⟨by first | rfl | go_num, rfl⟩
  case round =>
    obtain ⟨rfl, hW⟩ := hrel
    replace hW := hW.symm
    subst hW
    go_wp2_with fail
    go_end0
    exact ⟨⟨_, rfl⟩, rfl⟩
end Go.Proofs.Ytgkhjjnhikbdaaa
