import Derived.Test.YtgmfjninimebmaaGreatDoorNwM
import Derived.Deep.DeepCutAuto
namespace Go.Proofs.YtgmfjninimebmaaGreatDoor
open Go.RowKit Go.Maps
set_option linter.unusedVariables false
set_option linter.unusedSimpArgs false

/-- Blocks of k entries, each sorted. -/
def Bks (k : Nat) (L : List (List En)) : Prop := ∀ B ∈ L, B.length = k ∧ Srtd befE B
theorem Bks.len {k : Nat} {L : List (List En)} (h : Bks k L) : L.flatten.length = L.length * k := by
  induction L with
  | nil => simp
  | cons B L ih =>
    rw [List.flatten_cons, List.length_append, (h B (by simp)).1, ih (fun C hC => h C (by simp [hC])), List.length_cons, Nat.add_mul]; omega
theorem Bks.snoc {k : Nat} {L : List (List En)} (h : Bks k L) {B : List En} (h1 : B.length = k) (h2 : Srtd befE B) : Bks k (L ++ [B]) := fun C hC => by
  rcases List.mem_append.1 hC with hC | hC
  · exact h C hC
  · have : C = B := by simpa using hC
    subst this; exact ⟨h1, h2⟩
theorem sm_mid {X A B Y : List En} : Sm befE (X ++ A ++ B ++ Y) (X ++ srt befE (A ++ B) ++ Y) := by
  have h := Sm.app (Sm.app (Sm.refl X) (srt_ok befE_swo (A ++ B)).2) (Sm.refl (lt := befE) Y)
  simpa using h
theorem sm_one {X A Y : List En} : Sm befE (X ++ A ++ Y) (X ++ srt befE A ++ Y) := Sm.app (Sm.app (Sm.refl X) (srt_ok befE_swo A).2) (Sm.refl Y)
/-- How far the first loop has come. -/
structure St1 (xs zs : List En) (n a : Nat) (L : List (List En)) (R : List En) : Prop where
  e : zs = L.flatten ++ R
  b : Bks 20 L
  a : a = L.length * 20
  s : Sm befE xs zs
  l : zs.length = n
/-- All in blocks of k, a rest that is shorter behind them. -/
structure St2 (xs zs : List En) (n k : Nat) (L : List (List En)) (T : List En) : Prop where
  e : zs = L.flatten ++ T
  b : Bks k L
  t : T.length < k
  st : Srtd befE T
  s : Sm befE xs zs
  l : zs.length = n
structure St3 (xs zs : List En) (n k a : Nat) (L M : List (List En)) (T : List En) : Prop where
  e : zs = L.flatten ++ M.flatten ++ T
  b : Bks (2 * k) L
  c : Bks k M
  a : a = L.length * (2 * k)
  t : T.length < k
  st : Srtd befE T
  s : Sm befE xs zs
  l : zs.length = n
theorem St1.len {xs zs : List En} {n a : Nat} {L : List (List En)} {R : List En} (h : St1 xs zs n a L R) : a + R.length = n ∧ L.flatten.length = a := by
  have h1 := h.b.len
  have h2 := h.l
  rw [h.e, List.length_append, h1, ← h.a] at h2
  exact ⟨h2, by rw [h1, h.a]⟩
theorem St1.step {xs zs : List En} {n a : Nat} {L : List (List En)} {R : List En} (h : St1 xs zs n a L R) (hb : a + 20 ≤ n) :
    ∃ S Y, R = S ++ Y ∧ S ≠ [] ∧ zs = L.flatten ++ S ++ Y ∧ a = L.flatten.length ∧ a + 20 = L.flatten.length + S.length ∧ St1 xs (L.flatten ++ srt befE S ++ Y) n (a + 20) (L ++ [srt befE S]) Y := by
  obtain ⟨h1, h2⟩ := h.len
  have hS : (R.take 20).length = 20 := by rw [List.length_take]; omega
  have hR : R = R.take 20 ++ R.drop 20 := (List.take_append_drop _ _).symm
  have hz : zs = L.flatten ++ R.take 20 ++ R.drop 20 := by rw [h.e, List.append_assoc, List.take_append_drop]
  refine ⟨R.take 20, R.drop 20, hR, fun h0 => by rw [h0] at hS; simp at hS, hz, h2.symm, by omega, ⟨by simp, h.b.snoc (by rw [srt_length, hS]) (srt_ok befE_swo _).1, by rw [List.length_append, h.a]; simp [Nat.add_mul], ?_, ?_⟩⟩
  · have := h.s; rw [hz] at this; exact this.trans sm_one
  · have := h.l; rw [hz] at this; simp [srt_length] at this ⊢; omega
theorem St1.last {xs zs : List En} {n a : Nat} {L : List (List En)} {R : List En} (h : St1 xs zs n a L R) (hb : ¬ a + 20 ≤ n) :
    zs = L.flatten ++ R ++ [] ∧ a = L.flatten.length ∧ n = L.flatten.length + R.length ∧ St2 xs (L.flatten ++ srt befE R ++ []) n 20 L (srt befE R) := by
  obtain ⟨h1, h2⟩ := h.len
  have hz : zs = L.flatten ++ R ++ [] := by rw [h.e]; simp
  refine ⟨hz, h2.symm, by omega, ⟨by simp, h.b, by rw [srt_length]; omega, (srt_ok befE_swo _).1, ?_, ?_⟩⟩
  · have := h.s; rw [hz] at this; exact this.trans sm_one
  · have := h.l; rw [hz] at this; simp [srt_length] at this ⊢; omega
theorem St2.begin {xs zs : List En} {n k : Nat} {L : List (List En)} {T : List En} (h : St2 xs zs n k L T) : St3 xs zs n k 0 [] L T :=
  ⟨by rw [h.e]; simp, fun B hB => by simp at hB, h.b, by simp, h.t, h.st, h.s, h.l⟩
theorem St3.len {xs zs : List En} {n k a : Nat} {L M : List (List En)} {T : List En} (h : St3 xs zs n k a L M T) : a + M.length * k + T.length = n ∧ L.flatten.length = a := by
  have h1 := h.b.len
  have h2 := h.l
  have h3 := h.c.len
  rw [h.e, List.length_append, List.length_append, h1, h3, ← h.a] at h2
  exact ⟨h2, by rw [h1, h.a]⟩
theorem St3.step {xs zs : List En} {n k a : Nat} {L M : List (List En)} {T : List En} (h : St3 xs zs n k a L M T) (hk : 0 < k) (hb : a + 2 * k ≤ n) :
    ∃ A B Y M', zs = L.flatten ++ A ++ B ++ Y ∧ 0 < A.length ∧ 0 < B.length ∧ Srtd befE A ∧ Srtd befE B ∧ a = L.flatten.length ∧ a + k = L.flatten.length + A.length ∧ a + 2 * k = L.flatten.length + A.length + B.length ∧ St3 xs (L.flatten ++ srt befE (A ++ B) ++ Y) n k (a + 2 * k) (L ++ [srt befE (A ++ B)]) M' T := by
  obtain ⟨h1, h2⟩ := h.len
  have ht := h.t
  match M, h with
  | [], h => simp at h1; omega
  | [A], h => simp at h1; omega
  | A :: B :: M', h =>
    obtain ⟨lA, sA⟩ := h.c A (by simp)
    obtain ⟨lB, sB⟩ := h.c B (by simp)
    have hz : zs = L.flatten ++ A ++ B ++ (M'.flatten ++ T) := by rw [h.e]; simp
    have hl : (srt befE (A ++ B)).length = 2 * k := by rw [srt_length, List.length_append, lA, lB]; omega
    refine ⟨A, B, M'.flatten ++ T, M', hz, by omega, by omega, sA, sB, h2.symm, by omega, by omega, ⟨by simp, h.b.snoc hl (srt_ok befE_swo _).1, fun C hC => h.c C (by simp [hC]), ?_, h.t, h.st, ?_, ?_⟩⟩
    · rw [List.length_append, h.a, Nat.add_mul]; simp
    · have := h.s; rw [hz] at this; exact this.trans sm_mid
    · have := h.l; rw [hz] at this; simp [srt_length] at this ⊢; omega
theorem St3.odd {xs zs : List En} {n k a : Nat} {L M : List (List En)} {T : List En} (h : St3 xs zs n k a L M T) (hk : 0 < k) (hb : ¬ a + 2 * k ≤ n) (hm : a + k < n) :
    ∃ A, zs = L.flatten ++ A ++ T ++ [] ∧ 0 < A.length ∧ 0 < T.length ∧ Srtd befE A ∧ a = L.flatten.length ∧ a + k = L.flatten.length + A.length ∧ n = L.flatten.length + A.length + T.length ∧ St2 xs (L.flatten ++ srt befE (A ++ T) ++ []) n (2 * k) L (srt befE (A ++ T)) := by
  obtain ⟨h1, h2⟩ := h.len
  have ht := h.t
  match M, h with
  | [], h => simp at h1; omega
  | A :: B :: M', h => simp [Nat.add_mul] at h1; omega
  | [A], h =>
    obtain ⟨lA, sA⟩ := h.c A (by simp)
    simp at h1
    have hz : zs = L.flatten ++ A ++ T ++ [] := by rw [h.e]; simp
    refine ⟨A, hz, by omega, by omega, sA, h2.symm, by omega, by omega, ⟨by simp, h.b, by rw [srt_length, List.length_append, lA]; omega, (srt_ok befE_swo _).1, ?_, ?_⟩⟩
    · have := h.s; rw [hz] at this; exact this.trans sm_mid
    · have := h.l; rw [hz] at this; simp [srt_length] at this ⊢; omega
theorem St3.even {xs zs : List En} {n k a : Nat} {L M : List (List En)} {T : List En} (h : St3 xs zs n k a L M T) (hk : 0 < k) (hb : ¬ a + 2 * k ≤ n) (hm : ¬ a + k < n) :
    ∃ T', St2 xs zs n (2 * k) L T' := by
  obtain ⟨h1, h2⟩ := h.len
  have ht := h.t
  match M, h with
  | [], h => exact ⟨T, ⟨by rw [h.e]; simp, h.b, by omega, h.st, h.s, h.l⟩⟩
  | A :: B :: M', h => simp [Nat.add_mul] at h1; omega
  | [A], h =>
    obtain ⟨lA, sA⟩ := h.c A (by simp)
    simp at h1
    have hT : T = [] := List.length_eq_zero_iff.1 (by omega)
    exact ⟨A, ⟨by rw [h.e, hT]; simp, h.b, by omega, sA, h.s, h.l⟩⟩
theorem St2.done {xs zs : List En} {n k : Nat} {L : List (List En)} {T : List En} (h : St2 xs zs n k L T) (hk : 0 < k) (hb : ¬ k < n) : zs = srt befE xs := by
  have h1 := h.b.len
  have h2 := h.l
  rw [h.e, List.length_append, h1] at h2
  have hz : Srtd befE zs := by
    match L, h with
    | [], h => have := h.e; simp at this; rw [this]; exact h.st
    | A :: B :: M, h => simp [Nat.add_mul] at h2; omega
    | [A], h =>
      simp at h2
      have hT : T = [] := List.length_eq_zero_iff.1 (by omega)
      have := h.e
      rw [hT] at this
      simp at this
      rw [this]; exact (h.b A (by simp)).2
  exact srt_of befE_swo hz h.s
/-- No entries at all: nothing is done. -/
theorem insSort_none (g n cap : Nat) (w : World) (a : Nat) (hn : a ≤ 1048576) (fv : Value) :
    Calls Tryz.prog 166 #[.slice (some ⟨g, 0, none⟩) n cap, .int .i64 a, .int .i64 a, fv] w fun ee w' => (∃ v, ee = .returned v) ∧ w' = w := by
  have h1 : ¬ ((a : Int) + 1 < (a : Int)) := by omega
  go_enter Tryz.func166, Tryz.ntmps166
  go_wp2_with fail
  go_loopw [8] (fun v W => v = .int .i64 ((a : Int) + 1) ∧ W = w) (fun _ _ => 0)
  case atStart => exact ⟨by first | rfl | go_num, rfl⟩
  case round =>
    obtain ⟨rfl, hW⟩ := hrel
    replace hW := hW.symm
    subst hW
    go_wp2_with fail
    go_end0
    exact ⟨⟨_, rfl⟩, rfl⟩
end Go.Proofs.YtgmfjninimebmaaGreatDoor
namespace Go.Proofs.YtgmfjninimebmaaGreatDoor
open Go.RowKit Go.Maps
set_option linter.unusedVariables false
set_option linter.unusedSimpArgs false

/-- A stretch of the row is put in order, be it empty. -/
theorem insSort_all (g n cap : Nat) (X S Y : List En) (w : World) (hp : RowE w g n (X ++ S ++ Y) n) (hl : (X ++ S ++ Y).length = n) (hn : n ≤ 1048576) (a b : Nat) (ha : a = X.length) (hb : b = X.length + S.length) :
    Calls Tryz.prog 166 #[.slice (some ⟨g, 0, none⟩) n cap, .int .i64 a, .int .i64 b, .func (.func 86) #[] #[]] w fun ee w' => (∃ v, ee = .returned v) ∧ RowE w' g n (X ++ srt befE S ++ Y) n ∧ OnlyG g w w' := by
  by_cases hS : S = []
  · subst hS
    have hab : b = a := by simp at hb; omega
    subst hab
    refine (insSort_none g n cap w b (by simp at hl; omega) _).mono ?_
    rintro e w' ⟨h1, rfl⟩
    exact ⟨h1, hp, ⟨rfl, rfl, rfl, Nat.le_refl _, fun _ _ _ => rfl⟩⟩
  · exact insSort_any g n cap X S Y w hp hl hn a b ha hb hS
set_option maxRecDepth 100000 in
set_option maxHeartbeats 8000000 in
theorem stable_any (g n cap : Nat) (xs : List En) (w : World) (hp : RowE w g n xs n) (hl : xs.length = n) (hn : n ≤ 1048576) :
    Calls Tryz.prog 154 #[.slice (some ⟨g, 0, none⟩) n cap, .int .i64 n, .func (.func 86) #[] #[]] w fun ee w' => (∃ v, ee = .returned v) ∧ RowE w' g n (srt befE xs) n ∧ OnlyG g w w' := by
  have HP := hdN hp
  have HS0 : Hid (St1 xs xs n 0 [] xs) := ⟨by simp, fun B hB => by simp at hB, by simp, Sm.refl _, hl⟩
  clear hp hl
  go_enter Tryz.func154, Tryz.ntmps154
  go_wp2_with fail
  go_loopw [7, 8] (fun v7 v8 W => ∃ (a : Nat) (L : List (List En)) (R zs : List En), v7 = .int .i64 (a : Int) ∧ v8 = .int .i64 ((a : Int) + 20) ∧ a ≤ n ∧ Hid (St1 xs zs n a L R) ∧ Hid (RowE W g n zs n) ∧ Hid (OnlyG g w W)) (fun v7 _ _ => n - (intOf v7).toNat)
  case atStart => exact ⟨0, [], xs, xs, rfl, rfl, Nat.zero_le _, HS0, HP, ⟨rfl, rfl, rfl, Nat.le_refl _, fun _ _ _ => rfl⟩⟩
  case round =>
    clear HP HS0
    obtain ⟨a, L, R, zs, rfl, rfl, han, HS, HP, HO⟩ := hrel
    by_cases hb : a + 20 ≤ n
    · have hb' : (a : Int) + 20 ≤ (n : Int) := by omega
      obtain ⟨S, Y, -, -, ez, ea, eb, HN⟩ := HS.out.step hb
      have HZ := hdN ez
      have HA := hdN ea
      have HB := hdN eb
      have HN' := hdN HN
      have HC := hdN (insSort_all g n cap L.flatten S Y wr (by rw [← ez]; exact HP.out) (by rw [← ez]; exact HS.out.l) hn a (a + 20) ea eb)
      have hc : ((a + 20 : Nat) : Int) = (a : Int) + 20 := by omega
      rw [hc] at HC
      clear ez ea eb HN hc
      go_wp2_with fail
      refine HC.out.mono ?_
      rintro e w7 ⟨⟨v7, rfl⟩, HR7, HO7⟩
      have HR7' := hdN HR7
      have HO7' := hdN (HO.out.trans HO7)
      clear HR7 HO7 HC HP HO HS
      go_wp2_with fail
      refine ⟨⟨a + 20, _, _, _, by first | rfl | go_num, by first | rfl | go_num, hb, HN', HR7', HO7'⟩, by simp only [intOf]; omega⟩
    · have hb' : ¬ (a : Int) + 20 ≤ (n : Int) := by omega
      obtain ⟨ez, ea, eb, HN⟩ := HS.out.last hb
      have HN' := hdN HN
      have HC := hdN (insSort_all g n cap L.flatten R [] wr (by rw [← ez]; exact HP.out) (by rw [← ez]; exact HS.out.l) hn a n ea eb)
      clear ez ea eb HN
      go_wp2_with fail
      refine HC.out.mono ?_
      rintro e w7 ⟨⟨v7, rfl⟩, HR7, HO7⟩
      have HR7' := hdN HR7
      have HO7' := hdN (HO.out.trans HO7)
      clear HR7 HO7 HC HP HO HS hb hb' han
      go_wp2_with fail
      go_loopw [6, 7, 8, 9] (fun v6 v7 v8 v9 W => ∃ (k : Nat) (L : List (List En)) (T zs : List En), v6 = .int .i64 (k : Int) ∧ 20 ≤ k ∧ k ≤ 2097152 ∧ Hid (St2 xs zs n k L T) ∧ Hid (RowE W g n zs n) ∧ Hid (OnlyG g w W)) (fun v6 _ _ _ _ => n - (intOf v6).toNat)
      case atStart => exact ⟨20, _, _, _, rfl, Nat.le_refl _, by decide, HN', HR7', HO7'⟩
      case round =>
        clear HN' HR7' HO7'
        obtain ⟨k, L, T, zs, rfl, hk1, hk2, HS, HP, HO⟩ := hrel
        obtain ⟨W0, hW0⟩ : ∃ W0, W0 = wr := ⟨_, rfl⟩
        subst hW0
        by_cases hk : k < n
        · have hk' : (k : Int) < (n : Int) := by omega
          have HS3 := hdN HS.out.begin
          have hk2' : k ≤ 1048576 := by omega
          clear HS
          go_wp2_with fail
          go_loopw [7, 8] (fun v7 v8 W => ∃ (a : Nat) (L M : List (List En)) (T zs : List En), v7 = .int .i64 (a : Int) ∧ v8 = .int .i64 ((a : Int) + 2 * (k : Int)) ∧ a ≤ n ∧ Hid (St3 xs zs n k a L M T) ∧ Hid (RowE W g n zs n) ∧ Hid (OnlyG g w W)) (fun v7 _ _ => n - (intOf v7).toNat)
          case atStart => exact ⟨0, [], _, _, _, rfl, by first | rfl | go_num, Nat.zero_le _, HS3, HP, HO⟩
          case round =>
            clear HS3 HP HO
            obtain ⟨a, L, M, T, zs, rfl, rfl, han, HS, HP, HO⟩ := hrel
            by_cases hb : a + 2 * k ≤ n
            · have hb' : (a : Int) + 2 * (k : Int) ≤ (n : Int) := by omega
              obtain ⟨A, B, Y, M', ez, hA, hB, sA, sB, ea, eb, ec, HN⟩ := HS.out.step (by omega) hb
              have HN' := hdN HN
              have HC := hdN (symMerge_any _ g n cap L.flatten A B Y wr (Nat.le_refl _) hA hB (by rw [← ez]; exact HP.out) (by rw [← ez]; exact HS.out.l) hn sA sB a (a + k) (a + 2 * k) ea eb ec)
              have hc : ((a + 2 * k : Nat) : Int) = (a : Int) + 2 * (k : Int) := by omega
              have hc2 : ((a + k : Nat) : Int) = (a : Int) + (k : Int) := by omega
              have hc3 : IntKind.i64.wrap ((a : Int) + (k : Int)) = (a : Int) + (k : Int) := by rw [IntKind.wrap_i64]; omega
              rw [hc, hc2] at HC
              clear ez ea eb ec HN hc hc2 hA hB sA sB
              go_wp2_with fail
              refine HC.out.mono ?_
              rintro e w8 ⟨⟨v7, rfl⟩, HR7, HO7⟩
              have HR7' := hdN HR7
              have HO7' := hdN (HO.out.trans HO7)
              clear HR7 HO7 HC HP HO HS
              go_wp2_with fail
              refine ⟨⟨a + 2 * k, _, _, _, _, by first | rfl | go_num, by first | rfl | go_num, hb, HN', HR7', HO7'⟩, by simp only [intOf]; omega⟩
            · have hb' : ¬ (a : Int) + 2 * (k : Int) ≤ (n : Int) := by omega
              by_cases hm : a + k < n
              · have hm' : (a : Int) + (k : Int) < (n : Int) := by omega
                obtain ⟨A, ez, hA, hB, sA, ea, eb, ec, HN⟩ := HS.out.odd (by omega) hb hm
                have HN' := hdN HN
                have HC := hdN (symMerge_any _ g n cap L.flatten A T [] wr (Nat.le_refl _) hA hB (by rw [← ez]; exact HP.out) (by rw [← ez]; exact HS.out.l) hn sA HS.out.st a (a + k) n ea eb ec)
                have hc2 : ((a + k : Nat) : Int) = (a : Int) + (k : Int) := by omega
                rw [hc2] at HC
                clear ez ea eb ec HN hc2 hA hB sA
                go_wp2_with fail
                refine HC.out.mono ?_
                rintro e w8 ⟨⟨v7, rfl⟩, HR7, HO7⟩
                have HR7' := hdN HR7
                have HO7' := hdN (HO.out.trans HO7)
                clear HR7 HO7 HC HP HO HS
                go_wp2_with fail
                refine ⟨⟨2 * k, _, _, _, by first | rfl | go_num, by omega, by omega, HN', HR7', HO7'⟩, by simp only [intOf]; omega⟩
              · have hm' : ¬ (a : Int) + (k : Int) < (n : Int) := by omega
                obtain ⟨T', HN⟩ := HS.out.even (by omega) hb hm
                have HN' := hdN HN
                clear HN HS
                go_wp2_with fail
                refine ⟨⟨2 * k, _, _, _, by first | rfl | go_num, by omega, by omega, HN', HP, HO⟩, by simp only [intOf]; omega⟩
        · have hk' : ¬ (k : Int) < (n : Int) := by omega
          have he := hdN (HS.out.done (by omega) hk)
          go_wp2_with fail
          go_end0
          exact ⟨⟨_, rfl⟩, by rw [← he.out]; exact HP.out, HO.out⟩
end Go.Proofs.YtgmfjninimebmaaGreatDoor
