import Derived.Test.YtgkhjjnhikbdaaaNwN
import Derived.Deep.DeepCutAuto
namespace Go.Proofs.Ytgkhjjnhikbdaaa
open Go.RowKit Go.Maps
set_option linter.unusedVariables false
set_option linter.unusedSimpArgs false

/-- A stretch of the row is put in order, be it empty. -/
theorem insSort_all (g n cap : Nat) (X S Y : List En) (w : World) (hp : RowE w g n (X ++ S ++ Y) n) (hl : (X ++ S ++ Y).length = n) (hn : n ≤ 1048576) (a b : Nat) (ha : a = X.length) (hb : b = X.length + S.length) :
    Calls Try.prog 51 #[.slice (some ⟨g, 0, none⟩) n cap, .int .i64 a, .int .i64 b, .func (.func 23) #[] #[]] w fun ee w' => (∃ v, ee = .returned v) ∧ RowE w' g n (X ++ srt befE S ++ Y) n ∧ OnlyG g w w' := by
  by_cases hS : S = []
  · subst hS
    have hab : b = a := by simp at hb; omega
    subst hab
    refine (insSort_none g n cap w b (by simp at hl; omega) _).mono ?_
    rintro e w' ⟨h1, rfl⟩
    exact ⟨h1, hp, ⟨rfl, rfl, rfl, Nat.le_refl _, fun _ _ _ => rfl⟩⟩
  · exact insSort_any g n cap X S Y w hp hl hn a b ha hb hS
set_option maxRecDepth 100000 in
set_option maxHeartbeats 8000000 in
theorem stable_any (g n cap : Nat) (xs : List En) (w : World) (hp : RowE w g n xs n) (hl : xs.length = n) (hn : n ≤ 1048576) :
    Calls Try.prog 44 #[.slice (some ⟨g, 0, none⟩) n cap, .int .i64 n, .func (.func 23) #[] #[]] w fun ee w' => (∃ v, ee = .returned v) ∧ RowE w' g n (srt befE xs) n ∧ OnlyG g w w' := by
  have HP := hdN hp
  have HS0 : Hid (St1 xs xs n 0 [] xs) := ⟨by simp, fun B hB => by simp at hB, by simp, Sm.refl _, hl⟩
  clear hp hl
  go_enter Try.func44, Try.ntmps44
  go_wp2_with fail
  go_loopw [7, 8] (fun v7 v8 W => ∃ (a : Nat) (L : List (List En)) (R zs : List En), v7 = .int .i64 (a : Int) ∧ v8 = .int .i64 ((a : Int) + 20) ∧ a ≤ n ∧ Hid (St1 xs zs n a L R) ∧ Hid (RowE W g n zs n) ∧ Hid (OnlyG g w W)) (fun v7 _ _ => n - (intOf v7).toNat)
  case atStart => exact ⟨0, [], xs, xs, rfl, rfl, Nat.zero_le _, HS0, HP, ⟨rfl, rfl, rfl, Nat.le_refl _, fun _ _ _ => rfl⟩⟩
  case round =>
    clear HP HS0
    obtain ⟨a, L, R, zs, rfl, rfl, han, HS, HP, HO⟩ := hrel
    by_cases hb : a + 20 ≤ n
    · have hb' : (a : Int) + 20 ≤ (n : Int) := by omega
      obtain ⟨S, Y, -, -, ez, ea, eb, HN⟩ := HS.out.step hb
      have HZ := hdN ez
      have HA := hdN ea
      have HB := hdN eb
      have HN' := hdN HN
      have HC := hdN (insSort_all g n cap L.flatten S Y wr (by rw [← ez]; exact HP.out) (by rw [← ez]; exact HS.out.l) hn a (a + 20) ea eb)
      have hc : ((a + 20 : Nat) : Int) = (a : Int) + 20 := by omega
      rw [hc] at HC
      clear ez ea eb HN hc
      go_wp2_with fail
      refine HC.out.mono ?_
      rintro e w7 ⟨⟨v7, rfl⟩, HR7, HO7⟩
      have HR7' := hdN HR7
      have HO7' := hdN (HO.out.trans HO7)
      clear HR7 HO7 HC HP HO HS
      go_wp2_with fail
      refine ⟨⟨a + 20, _, _, _, by first | rfl | go_num, by first | rfl | go_num, hb, HN', HR7', HO7'⟩, by simp only [intOf]; omega⟩
    · have hb' : ¬ (a : Int) + 20 ≤ (n : Int) := by omega
      obtain ⟨ez, ea, eb, HN⟩ := HS.out.last hb
      have HN' := hdN HN
      have HC := hdN (insSort_all g n cap L.flatten R [] wr (by rw [← ez]; exact HP.out) (by rw [← ez]; exact HS.out.l) hn a n ea eb)
      clear ez ea eb HN
      go_wp2_with fail
      refine HC.out.mono ?_
      rintro e w7 ⟨⟨v7, rfl⟩, HR7, HO7⟩
      have HR7' := hdN HR7
      have HO7' := hdN (HO.out.trans HO7)
      clear HR7 HO7 HC HP HO HS hb hb' han
      go_wp2_with fail
      go_loopw [6, 7, 8, 9] (fun v6 v7 v8 v9 W => ∃ (k : Nat) (L : List (List En)) (T zs : List En), v6 = .int .i64 (k : Int) ∧ 20 ≤ k ∧ k ≤ 2097152 ∧ Hid (St2 xs zs n k L T) ∧ Hid (RowE W g n zs n) ∧ Hid (OnlyG g w W)) (fun v6 _ _ _ _ => n - (intOf v6).toNat)
      case atStart => exact ⟨20, _, _, _, rfl, Nat.le_refl _, by decide, HN', HR7', HO7'⟩
      case round =>
        clear HN' HR7' HO7'
        obtain ⟨k, L, T, zs, rfl, hk1, hk2, HS, HP, HO⟩ := hrel
        obtain ⟨W0, hW0⟩ : ∃ W0, W0 = wr := ⟨_, rfl⟩
        subst hW0
        by_cases hk : k < n
        · have hk' : (k : Int) < (n : Int) := by omega
          have HS3 := hdN HS.out.begin
          have hk2' : k ≤ 1048576 := by omega
          clear HS
          go_wp2_with fail
          go_loopw [7, 8] (fun v7 v8 W => ∃ (a : Nat) (L M : List (List En)) (T zs : List En), v7 = .int .i64 (a : Int) ∧ v8 = .int .i64 ((a : Int) + 2 * (k : Int)) ∧ a ≤ n ∧ Hid (St3 xs zs n k a L M T) ∧ Hid (RowE W g n zs n) ∧ Hid (OnlyG g w W)) (fun v7 _ _ => n - (intOf v7).toNat)
          case atStart => exact ⟨0, [], _, _, _, rfl, by first | rfl | go_num, Nat.zero_le _, HS3, HP, HO⟩
          case round =>
            clear HS3 HP HO
            obtain ⟨a, L, M, T, zs, rfl, rfl, han, HS, HP, HO⟩ := hrel
            by_cases hb : a + 2 * k ≤ n
            · have hb' : (a : Int) + 2 * (k : Int) ≤ (n : Int) := by omega
              obtain ⟨A, B, Y, M', ez, hA, hB, sA, sB, ea, eb, ec, HN⟩ := HS.out.step (by omega) hb
              have HN' := hdN HN
              have HC := hdN (symMerge_any _ g n cap L.flatten A B Y wr (Nat.le_refl _) hA hB (by rw [← ez]; exact HP.out) (by rw [← ez]; exact HS.out.l) hn sA sB a (a + k) (a + 2 * k) ea eb ec)
              have hc : ((a + 2 * k : Nat) : Int) = (a : Int) + 2 * (k : Int) := by omega
              have hc2 : ((a + k : Nat) : Int) = (a : Int) + (k : Int) := by omega
              have hc3 : IntKind.i64.wrap ((a : Int) + (k : Int)) = (a : Int) + (k : Int) := by rw [IntKind.wrap_i64]; omega
              rw [hc, hc2] at HC
              clear ez ea eb ec HN hc hc2 hA hB sA sB
              go_wp2_with fail
              refine HC.out.mono ?_
              rintro e w8 ⟨⟨v7, rfl⟩, HR7, HO7⟩
              have HR7' := hdN HR7
              have HO7' := hdN (HO.out.trans HO7)
              clear HR7 HO7 HC HP HO HS
              go_wp2_with fail
              refine ⟨⟨a + 2 * k, _, _, _, _, by first | rfl | go_num, by first | rfl | go_num, hb, HN', HR7', HO7'⟩, by simp only [intOf]; omega⟩
            · have hb' : ¬ (a : Int) + 2 * (k : Int) ≤ (n : Int) := by omega
              by_cases hm : a + k < n
              · have hm' : (a : Int) + (k : Int) < (n : Int) := by omega
                obtain ⟨A, ez, hA, hB, sA, ea, eb, ec, HN⟩ := HS.out.odd (by omega) hb hm
                have HN' := hdN HN
                have HC := hdN (symMerge_any _ g n cap L.flatten A T [] wr (Nat.le_refl _) hA hB (by rw [← ez]; exact HP.out) (by rw [← ez]; exact HS.out.l) hn sA HS.out.st a (a + k) n ea eb ec)
                have hc2 : ((a + k : Nat) : Int) = (a : Int) + (k : Int) := by omega
                rw [hc2] at HC
                clear ez ea eb ec HN hc2 hA hB sA
                go_wp2_with fail
                refine HC.out.mono ?_
                rintro e w8 ⟨⟨v7, rfl⟩, HR7, HO7⟩
                have HR7' := hdN HR7
                have HO7' := hdN (HO.out.trans HO7)
                clear HR7 HO7 HC HP HO HS
                go_wp2_with fail
                refine ⟨⟨2 * k, _, _, _, by first | rfl | go_num, by omega, by omega, HN', HR7', HO7'⟩, by simp only [intOf]; omega⟩
              · have hm' : ¬ (a : Int) + (k : Int) < (n : Int) := by omega
                obtain ⟨T', HN⟩ := HS.out.even (by omega) hb hm
                have HN' := hdN HN
                clear HN HS
                go_wp2_with fail
                refine ⟨⟨2 * k, _, _, _, by first | rfl | go_num, by omega, by omega, HN', HP, HO⟩, by simp only [intOf]; omega⟩
        · have hk' : ¬ (k : Int) < (n : Int) := by omega
          have he := hdN (HS.out.done (by omega) hk)
          go_wp2_with fail
          go_end0
          exact ⟨⟨_, rfl⟩, by rw [← he.out]; exact HP.out, HO.out⟩
end Go.Proofs.Ytgkhjjnhikbdaaa
