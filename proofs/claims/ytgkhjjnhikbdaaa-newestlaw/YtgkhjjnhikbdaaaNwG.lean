import Derived.Test.YtgkhjjnhikbdaaaNwF

namespace Go.Proofs.Ytgkhjjnhikbdaaa
open Go.RowKit Go.Maps
set_option linter.unusedVariables false
set_option linter.unusedSimpArgs false

theorem swapAt (g n cap : Nat) (X P Q R Y : List En) (fv : Value) (w : World) (x y z : Int) (hp : RowE w g n (X ++ P ++ Q ++ R ++ Y) n) (hl : (X ++ P ++ Q ++ R ++ Y).length = n) (hk : P.length = R.length) (hx : x = X.length) (hy : y = ((X.length + P.length + Q.length : Nat) : Int)) (hz : z = P.length) (hn : n ≤ 1048576) :
    Calls Try.prog 56 #[.slice (some ⟨g, 0, none⟩) n cap, .int .i64 x, .int .i64 y, .int .i64 z, fv] w fun e w' => (∃ v, e = .returned v) ∧ RowE w' g n (X ++ R ++ Q ++ P ++ Y) n ∧ OnlyG g w w' := by
  subst hx hy hz
  refine (swapRange_any g n cap _ X.length (X.length + P.length + Q.length) P.length fv w hp hl (by omega) (by simp at hl; omega) hn).mono ?_
  rintro e w' ⟨he, hr, ho⟩
  rw [swpN_blocks X P Q R Y hk] at hr
  exact ⟨he, hr, ho⟩
/-- How far a rotation has come. -/
def RotI (T zs : List En) (n m i j : Nat) (X A B Y : List En) : Prop := zs = X ++ A ++ B ++ Y ∧ X.length + i = m ∧ A.length = i ∧ B.length = j ∧ 0 < i ∧ 0 < j ∧ zs.length = n ∧ X ++ B ++ A ++ Y = T
set_option maxRecDepth 100000 in
set_option maxHeartbeats 4000000 in
theorem rotate_any (g n cap : Nat) (X A B Y : List En) (fv : Value) (w : World) (hp : RowE w g n (X ++ A ++ B ++ Y) n) (hl : (X ++ A ++ B ++ Y).length = n) (hA : 0 < A.length) (hB : 0 < B.length) (hn : n ≤ 1048576) (a m b : Nat) (ha : a = X.length) (hm : m = X.length + A.length) (hb : b = X.length + A.length + B.length) :
    Calls Try.prog 55 #[.slice (some ⟨g, 0, none⟩) n cap, .int .i64 a, .int .i64 m, .int .i64 b, fv] w fun e w' => (∃ v, e = .returned v) ∧ RowE w' g n (X ++ B ++ A ++ Y) n ∧ OnlyG g w w' := by
  obtain ⟨T, hT⟩ : ∃ T, T = X ++ B ++ A ++ Y := ⟨_, rfl⟩
  rw [← hT]
  have hlen : X.length + A.length + B.length + Y.length = n := by simp at hl; omega
  have hS : RotI T (X ++ A ++ B ++ Y) n m A.length B.length X A B Y := ⟨rfl, by omega, rfl, rfl, hA, hB, hl, hT.symm⟩
  have hma : (m : Int) - (a : Int) = (A.length : Int) := by omega
  have hbm : (b : Int) - (m : Int) = (B.length : Int) := by omega
  have hwa : IntKind.i64.wrap ((m : Int) - (a : Int)) = (A.length : Int) := by rw [IntKind.wrap_i64]; omega
  have hwb : IntKind.i64.wrap ((b : Int) - (m : Int)) = (B.length : Int) := by rw [IntKind.wrap_i64]; omega
  have HP := hdN hp
  have HS := hdN hS
  have hmn : m ≤ n := by omega
  have hjn : B.length ≤ n := by omega
  have hin : A.length ≤ n := by omega
  clear hp hS hT ha hm hb hl
  generalize hi0 : A.length = i0 at *
  generalize hj0 : B.length = j0 at *
  generalize X ++ A ++ B ++ Y = Z at *
  clear hA hB hlen
  go_enter Try.func55, Try.ntmps55
  go_wp2_with fail
  go_loopw [10, 11] (fun v10 v11 W => ∃ (i j : Nat) (zs X A B Y : List En), v10 = .int .i64 (i : Int) ∧ v11 = .int .i64 (j : Int) ∧ Hid (RotI T zs n m i j X A B Y) ∧ Hid (RowE W g n zs n) ∧ Hid (OnlyG g w W)) (fun v10 v11 _ => (intOf v10).toNat + (intOf v11).toNat)
  case atStart => exact ⟨i0, j0, Z, X, A, B, Y, (by first | rfl | (congr 1; unfold wrap64; omega)), (by first | rfl | (congr 1; unfold wrap64; omega)), HS, HP, ⟨rfl, rfl, rfl, Nat.le_refl _, fun _ _ _ => rfl⟩⟩
  case round =>
    clear HS HP hwa hwb hma hbm hi0 hj0
    obtain ⟨i, j, zs, X, A, B, Y, rfl, rfl, HS, HP, HO⟩ := hrel
    obtain ⟨hz, hxm, hA, hB, hi1, hj1, hzl, hT⟩ := HS.out
    have hlen : X.length + i + j + Y.length = n := by rw [← hzl, hz]; simp; omega
    by_cases hij : i = j
    · subst hij
      have w1 : IntKind.i64.wrap ((m : Int) - (i : Int)) = (X.length : Int) := by rw [IntKind.wrap_i64]; omega
      have w2 : (m : Int) - (i : Int) = (X.length : Int) := by omega
      have HC := hdN (swapAt g n cap X A [] B Y fv wr ((X.length : Nat) : Int) (m : Int) (i : Int) (by rw [List.append_nil, ← hz]; exact HP.out) (by rw [List.append_nil, ← hz]; exact hzl) (by omega) rfl (by simp; omega) (by omega) hn)
      have HT : Hid (X ++ B ++ [] ++ A ++ Y = T) := by show _ = _; rw [List.append_nil]; exact hT
      generalize X.length = xl at *
      clear hz hT hzl
      go_wp2_with fail
      refine HC.out.mono ?_
      rintro e w1 ⟨⟨v, rfl⟩, hr, ho⟩
      rw [HT.out] at hr
      have HO2 := hdN (HO.out.trans ho)
      go_wp2_with fail
      go_end0
      exact ⟨⟨_, rfl⟩, hr, HO2.out⟩
    · have hne : ¬ (i : Int) = (j : Int) := by omega
      have hneb : ((i : Int) == (j : Int)) = false := by simp; omega
      by_cases hgt : j < i
      · have hgt' : (j : Int) < (i : Int) := by omega
        obtain ⟨P, Q, hPQ, hPl⟩ : ∃ P Q, A = P ++ Q ∧ P.length = j := ⟨A.take j, A.drop j, (List.take_append_drop j A).symm, by rw [List.length_take]; omega⟩
        have hQl : Q.length + j = i := by rw [← hA, hPQ, List.length_append]; omega
        have w1 : IntKind.i64.wrap ((m : Int) - (i : Int)) = (X.length : Int) := by rw [IntKind.wrap_i64]; omega
        have w2 : (m : Int) - (i : Int) = (X.length : Int) := by omega
        have w3 : IntKind.i64.wrap ((i : Int) - (j : Int)) = (Q.length : Int) := by rw [IntKind.wrap_i64]; omega
        have w4 : (i : Int) - (j : Int) = (Q.length : Int) := by omega
        have ez : zs = X ++ P ++ Q ++ B ++ Y := by rw [hz, hPQ]; simp
        have HC := hdN (swapAt g n cap X P Q B Y fv wr ((X.length : Nat) : Int) (m : Int) (j : Int) (by rw [← ez]; exact HP.out) (by rw [← ez]; exact hzl) (by omega) rfl (by omega) (by omega) hn)
        have HN : Hid (RotI T (X ++ B ++ Q ++ P ++ Y) n m Q.length j (X ++ B) Q P Y) := ⟨rfl, by rw [List.length_append]; omega, rfl, hPl, by omega, hj1, by simp; omega, by rw [← hT, hPQ]; simp⟩
        generalize X.length = xl at *
        generalize hql : Q.length = ql at *
        clear hz hT hzl ez hPQ hql
        go_wp2_with fail
        refine HC.out.mono ?_
        rintro e w1 ⟨⟨v, rfl⟩, hr, ho⟩
        have HO2 := hdN (HO.out.trans ho)
        have HR2 := hdN hr
        clear hr ho
        go_wp2_with fail
        exact ⟨⟨ql, j, _, _, _, _, _, rfl, rfl, HN, HR2, HO2⟩, by simp only [intOf]; omega⟩
      · have hgt' : ¬ (j : Int) < (i : Int) := by omega
        obtain ⟨Q, R, hQR, hQl⟩ : ∃ Q R, B = Q ++ R ∧ Q.length = j - i := ⟨B.take (j - i), B.drop (j - i), (List.take_append_drop _ B).symm, by rw [List.length_take]; omega⟩
        have hRl : R.length = i := by have := hB; rw [hQR, List.length_append] at this; omega
        have w1 : IntKind.i64.wrap ((m : Int) - (i : Int)) = (X.length : Int) := by rw [IntKind.wrap_i64]; omega
        have w2 : (m : Int) - (i : Int) = (X.length : Int) := by omega
        have w3 : IntKind.i64.wrap ((j : Int) - (i : Int)) = (Q.length : Int) := by rw [IntKind.wrap_i64]; omega
        have w4 : (j : Int) - (i : Int) = (Q.length : Int) := by omega
        have w5 : IntKind.i64.wrap ((m : Int) + (j : Int)) = (m : Int) + (j : Int) := by rw [IntKind.wrap_i64]; omega
        have w6 : IntKind.i64.wrap ((m : Int) + (j : Int) - (i : Int)) = (m : Int) + (j : Int) - (i : Int) := by rw [IntKind.wrap_i64]; omega
        have ez : zs = X ++ A ++ Q ++ R ++ Y := by rw [hz, hQR]; simp
        have HC := hdN (swapAt g n cap X A Q R Y fv wr ((X.length : Nat) : Int) ((m : Int) + (j : Int) - (i : Int)) (i : Int) (by rw [← ez]; exact HP.out) (by rw [← ez]; exact hzl) (by omega) rfl (by omega) (by omega) hn)
        have HN : Hid (RotI T (X ++ R ++ Q ++ A ++ Y) n m i Q.length X R Q (A ++ Y)) := ⟨by simp, hxm, hRl, rfl, hi1, by omega, by simp; omega, by rw [← hT, hQR]; simp⟩
        generalize X.length = xl at *
        generalize hql : Q.length = ql at *
        clear hz hT hzl ez hQR hql
        go_wp2_with fail
        refine HC.out.mono ?_
        rintro e w1 ⟨⟨v, rfl⟩, hr, ho⟩
        have HO2 := hdN (HO.out.trans ho)
        have HR2 := hdN hr
        clear hr ho
        go_wp2_with fail
        exact ⟨⟨i, ql, _, _, _, _, _, rfl, (by congr 1; omega), HN, HR2, HO2⟩, by simp only [intOf]; omega⟩
end Go.Proofs.Ytgkhjjnhikbdaaa
