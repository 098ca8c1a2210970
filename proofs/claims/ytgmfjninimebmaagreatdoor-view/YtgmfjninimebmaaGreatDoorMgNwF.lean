import Derived.Test.YtgmfjninimebmaaGreatDoorMgNwC
namespace Go.Proofs.YtgmfjninimebmaaGreatDoor
open Go.RowKit Go.Maps
set_option linter.unusedVariables false
set_option linter.unusedSimpArgs false

theorem swp_get (xs : List En) (i j t : Nat) (hi : i < xs.length) (hj : j < xs.length) (hij : i < j) : (swp xs i j)[t]? = if t = i then xs[j]? else if t = j then xs[i]? else xs[t]? := by
  unfold swp
  have ei : xs[i]? = some (xs.getD i en0) := by rw [List.getElem?_eq_getElem hi]; simp [List.getD, hi]
  have ej : xs[j]? = some (xs.getD j en0) := by rw [List.getElem?_eq_getElem hj]; simp [List.getD, hj]
  rw [List.getElem?_set, List.getElem?_set, List.length_set, ei, ej]
  by_cases h1 : t = i
  · subst h1
    rw [if_neg (by omega), if_pos rfl, if_pos rfl, if_pos hi]
  · rw [if_neg h1]
    by_cases h2 : t = j
    · subst h2
      rw [if_pos rfl, if_pos rfl, if_pos hj]
    · rw [if_neg (fun e => h2 e.symm), if_neg (fun e => h1 e.symm), if_neg h2]
theorem swpN_get (xs : List En) (a b k : Nat) (h1 : a + k ≤ b) (h2 : b + k ≤ xs.length) : ∀ t, (swpN xs a b k)[t]? = if a ≤ t ∧ t < a + k then xs[b + (t - a)]? else if b ≤ t ∧ t < b + k then xs[a + (t - b)]? else xs[t]? := by
  induction k with
  | zero => intro t; rw [if_neg (by omega), if_neg (by omega)]; rfl
  | succ k ih =>
    intro t
    have ih' := ih (by omega) (by omega)
    rw [swpN, swp_get _ _ _ _ (by rw [swpN_length]; omega) (by rw [swpN_length]; omega) (by omega), ih' (b + k), ih' (a + k), ih' t]
    by_cases e1 : t = a + k
    · subst e1
      rw [if_pos rfl, if_neg (by omega), if_neg (by omega), if_pos (by omega)]
      congr 1; omega
    · rw [if_neg e1]
      by_cases e2 : t = b + k
      · subst e2
        rw [if_pos rfl, if_neg (by omega), if_neg (by omega), if_neg (by omega), if_pos (by omega)]
        congr 1; omega
      · rw [if_neg e2]
        by_cases c1 : a ≤ t ∧ t < a + k
        · rw [if_pos c1, if_pos (by omega)]
        · rw [if_neg c1, if_neg (c := a ≤ t ∧ t < a + (k + 1)) (by omega)]
          by_cases c2 : b ≤ t ∧ t < b + k
          · rw [if_pos c2, if_pos (by omega)]
          · rw [if_neg c2, if_neg (by omega)]
/-- Two blocks of one length change places. -/
theorem swpN_blocks (X P Q R Y : List En) (hk : P.length = R.length) : swpN (X ++ P ++ Q ++ R ++ Y) X.length (X.length + P.length + Q.length) P.length = X ++ R ++ Q ++ P ++ Y := by
  apply List.ext_getElem?
  intro t
  rw [swpN_get _ _ _ _ (by omega) (by simp; omega)]
  simp only [List.append_assoc]
  by_cases c1 : X.length ≤ t ∧ t < X.length + P.length
  · rw [if_pos c1]
    rw [List.getElem?_append_right (by omega), List.getElem?_append_right (by omega), List.getElem?_append_right (by omega), List.getElem?_append_left (by omega)]
    rw [List.getElem?_append_right (by omega), List.getElem?_append_left (by omega)]
    congr 1; omega
  · rw [if_neg c1]
    by_cases c2 : X.length + P.length + Q.length ≤ t ∧ t < X.length + P.length + Q.length + P.length
    · rw [if_pos c2]
      rw [List.getElem?_append_right (by omega), List.getElem?_append_left (by omega)]
      rw [List.getElem?_append_right (by omega), List.getElem?_append_right (by omega), List.getElem?_append_right (by omega), List.getElem?_append_left (by omega)]
      congr 1; omega
    · rw [if_neg c2]
      by_cases d1 : t < X.length
      · rw [List.getElem?_append_left d1, List.getElem?_append_left d1]
      · have l : (X ++ (P ++ (Q ++ (R ++ Y))))[t]? = (Q ++ (R ++ Y))[t - X.length - P.length]? := by rw [List.getElem?_append_right (by omega), List.getElem?_append_right (by omega)]
        have r : (X ++ (R ++ (Q ++ (P ++ Y))))[t]? = (Q ++ (P ++ Y))[t - X.length - R.length]? := by rw [List.getElem?_append_right (by omega), List.getElem?_append_right (by omega)]
        rw [l, r]
        by_cases d2 : t < X.length + P.length + Q.length
        · rw [List.getElem?_append_left (by omega), List.getElem?_append_left (by omega)]
          congr 1; omega
        · have l2 : (Q ++ (R ++ Y))[t - X.length - P.length]? = Y[t - X.length - P.length - Q.length - R.length]? := by rw [List.getElem?_append_right (by omega), List.getElem?_append_right (by omega)]
          have r2 : (Q ++ (P ++ Y))[t - X.length - R.length]? = Y[t - X.length - R.length - Q.length - P.length]? := by rw [List.getElem?_append_right (by omega), List.getElem?_append_right (by omega)]
          rw [l2, r2]
          congr 1; omega
end Go.Proofs.YtgmfjninimebmaaGreatDoor
namespace Go.Proofs.YtgmfjninimebmaaGreatDoor
open Go.RowKit Go.Maps
set_option linter.unusedVariables false
set_option linter.unusedSimpArgs false

theorem swapAt (g n cap : Nat) (X P Q R Y : List En) (fv : Value) (w : World) (x y z : Int) (hp : RowE w g n (X ++ P ++ Q ++ R ++ Y) n) (hl : (X ++ P ++ Q ++ R ++ Y).length = n) (hk : P.length = R.length) (hx : x = X.length) (hy : y = ((X.length + P.length + Q.length : Nat) : Int)) (hz : z = P.length) (hn : n ≤ 1048576) :
    Calls Tryz.prog 176 #[.slice (some ⟨g, 0, none⟩) n cap, .int .i64 x, .int .i64 y, .int .i64 z, fv] w fun e w' => (∃ v, e = .returned v) ∧ RowE w' g n (X ++ R ++ Q ++ P ++ Y) n ∧ OnlyG g w w' := by
  subst hx hy hz
  refine (swapRange_any g n cap _ X.length (X.length + P.length + Q.length) P.length fv w hp hl (by omega) (by simp at hl; omega) hn).mono ?_
  rintro e w' ⟨he, hr, ho⟩
  rw [swpN_blocks X P Q R Y hk] at hr
  exact ⟨he, hr, ho⟩
/-- How far a rotation has come. -/
def RotI (T zs : List En) (n m i j : Nat) (X A B Y : List En) : Prop := zs = X ++ A ++ B ++ Y ∧ X.length + i = m ∧ A.length = i ∧ B.length = j ∧ 0 < i ∧ 0 < j ∧ zs.length = n ∧ X ++ B ++ A ++ Y = T
set_option maxRecDepth 100000 in
set_option maxHeartbeats 4000000 in
theorem rotate_any (g n cap : Nat) (X A B Y : List En) (fv : Value) (w : World) (hp : RowE w g n (X ++ A ++ B ++ Y) n) (hl : (X ++ A ++ B ++ Y).length = n) (hA : 0 < A.length) (hB : 0 < B.length) (hn : n ≤ 1048576) (a m b : Nat) (ha : a = X.length) (hm : m = X.length + A.length) (hb : b = X.length + A.length + B.length) :
    Calls Tryz.prog 174 #[.slice (some ⟨g, 0, none⟩) n cap, .int .i64 a, .int .i64 m, .int .i64 b, fv] w fun e w' => (∃ v, e = .returned v) ∧ RowE w' g n (X ++ B ++ A ++ Y) n ∧ OnlyG g w w' := by
  obtain ⟨T, hT⟩ : ∃ T, T = X ++ B ++ A ++ Y := ⟨_, rfl⟩
  rw [← hT]
  have hlen : X.length + A.length + B.length + Y.length = n := by simp at hl; omega
  have hS : RotI T (X ++ A ++ B ++ Y) n m A.length B.length X A B Y := ⟨rfl, by omega, rfl, rfl, hA, hB, hl, hT.symm⟩
  have hma : (m : Int) - (a : Int) = (A.length : Int) := by omega
  have hbm : (b : Int) - (m : Int) = (B.length : Int) := by omega
  have hwa : IntKind.i64.wrap ((m : Int) - (a : Int)) = (A.length : Int) := by rw [IntKind.wrap_i64]; omega
  have hwb : IntKind.i64.wrap ((b : Int) - (m : Int)) = (B.length : Int) := by rw [IntKind.wrap_i64]; omega
  have HP := hdN hp
  have HS := hdN hS
  have hmn : m ≤ n := by omega
  have hjn : B.length ≤ n := by omega
  have hin : A.length ≤ n := by omega
  clear hp hS hT ha hm hb hl
  generalize hi0 : A.length = i0 at *
  generalize hj0 : B.length = j0 at *
  generalize X ++ A ++ B ++ Y = Z at *
  clear hA hB hlen
  go_enter Tryz.func174, Tryz.ntmps174
  go_wp2_with fail
  go_loopw [10, 11] (fun v10 v11 W => ∃ (i j : Nat) (zs X A B Y : List En), v10 = .int .i64 (i : Int) ∧ v11 = .int .i64 (j : Int) ∧ Hid (RotI T zs n m i j X A B Y) ∧ Hid (RowE W g n zs n) ∧ Hid (OnlyG g w W)) (fun v10 v11 _ => (intOf v10).toNat + (intOf v11).toNat)
  case atStart => exact ⟨i0, j0, Z, X, A, B, Y, (by first | rfl | (congr 1; unfold wrap64; omega)), (by first | rfl | (congr 1; unfold wrap64; omega)), HS, HP, ⟨rfl, rfl, rfl, Nat.le_refl _, fun _ _ _ => rfl⟩⟩
  case round =>
    clear HS HP hwa hwb hma hbm hi0 hj0
    obtain ⟨i, j, zs, X, A, B, Y, rfl, rfl, HS, HP, HO⟩ := hrel
    obtain ⟨hz, hxm, hA, hB, hi1, hj1, hzl, hT⟩ := HS.out
    have hlen : X.length + i + j + Y.length = n := by rw [← hzl, hz]; simp; omega
    by_cases hij : i = j
    · subst hij
      have w1 : IntKind.i64.wrap ((m : Int) - (i : Int)) = (X.length : Int) := by rw [IntKind.wrap_i64]; omega
      have w2 : (m : Int) - (i : Int) = (X.length : Int) := by omega
      have HC := hdN (swapAt g n cap X A [] B Y fv wr ((X.length : Nat) : Int) (m : Int) (i : Int) (by rw [List.append_nil, ← hz]; exact HP.out) (by rw [List.append_nil, ← hz]; exact hzl) (by omega) rfl (by simp; omega) (by omega) hn)
      have HT : Hid (X ++ B ++ [] ++ A ++ Y = T) := by show _ = _; rw [List.append_nil]; exact hT
      generalize X.length = xl at *
      clear hz hT hzl
      go_wp2_with fail
      refine HC.out.mono ?_
      rintro e w1 ⟨⟨v, rfl⟩, hr, ho⟩
      rw [HT.out] at hr
      have HO2 := hdN (HO.out.trans ho)
      go_wp2_with fail
      go_end0
      exact ⟨⟨_, rfl⟩, hr, HO2.out⟩
    · have hne : ¬ (i : Int) = (j : Int) := by omega
      have hneb : ((i : Int) == (j : Int)) = false := by simp; omega
      by_cases hgt : j < i
      · have hgt' : (j : Int) < (i : Int) := by omega
        obtain ⟨P, Q, hPQ, hPl⟩ : ∃ P Q, A = P ++ Q ∧ P.length = j := ⟨A.take j, A.drop j, (List.take_append_drop j A).symm, by rw [List.length_take]; omega⟩
        have hQl : Q.length + j = i := by rw [← hA, hPQ, List.length_append]; omega
        have w1 : IntKind.i64.wrap ((m : Int) - (i : Int)) = (X.length : Int) := by rw [IntKind.wrap_i64]; omega
        have w2 : (m : Int) - (i : Int) = (X.length : Int) := by omega
        have w3 : IntKind.i64.wrap ((i : Int) - (j : Int)) = (Q.length : Int) := by rw [IntKind.wrap_i64]; omega
        have w4 : (i : Int) - (j : Int) = (Q.length : Int) := by omega
        have ez : zs = X ++ P ++ Q ++ B ++ Y := by rw [hz, hPQ]; simp
        have HC := hdN (swapAt g n cap X P Q B Y fv wr ((X.length : Nat) : Int) (m : Int) (j : Int) (by rw [← ez]; exact HP.out) (by rw [← ez]; exact hzl) (by omega) rfl (by omega) (by omega) hn)
        have HN : Hid (RotI T (X ++ B ++ Q ++ P ++ Y) n m Q.length j (X ++ B) Q P Y) := ⟨rfl, by rw [List.length_append]; omega, rfl, hPl, by omega, hj1, by simp; omega, by rw [← hT, hPQ]; simp⟩
        generalize X.length = xl at *
        generalize hql : Q.length = ql at *
        clear hz hT hzl ez hPQ hql
        go_wp2_with fail
        refine HC.out.mono ?_
        rintro e w1 ⟨⟨v, rfl⟩, hr, ho⟩
        have HO2 := hdN (HO.out.trans ho)
        have HR2 := hdN hr
        clear hr ho
        go_wp2_with fail
        exact ⟨⟨ql, j, _, _, _, _, _, rfl, rfl, HN, HR2, HO2⟩, by simp only [intOf]; omega⟩
      · have hgt' : ¬ (j : Int) < (i : Int) := by omega
        obtain ⟨Q, R, hQR, hQl⟩ : ∃ Q R, B = Q ++ R ∧ Q.length = j - i := ⟨B.take (j - i), B.drop (j - i), (List.take_append_drop _ B).symm, by rw [List.length_take]; omega⟩
        have hRl : R.length = i := by have := hB; rw [hQR, List.length_append] at this; omega
        have w1 : IntKind.i64.wrap ((m : Int) - (i : Int)) = (X.length : Int) := by rw [IntKind.wrap_i64]; omega
        have w2 : (m : Int) - (i : Int) = (X.length : Int) := by omega
        have w3 : IntKind.i64.wrap ((j : Int) - (i : Int)) = (Q.length : Int) := by rw [IntKind.wrap_i64]; omega
        have w4 : (j : Int) - (i : Int) = (Q.length : Int) := by omega
        have w5 : IntKind.i64.wrap ((m : Int) + (j : Int)) = (m : Int) + (j : Int) := by rw [IntKind.wrap_i64]; omega
        have w6 : IntKind.i64.wrap ((m : Int) + (j : Int) - (i : Int)) = (m : Int) + (j : Int) - (i : Int) := by rw [IntKind.wrap_i64]; omega
        have ez : zs = X ++ A ++ Q ++ R ++ Y := by rw [hz, hQR]; simp
        have HC := hdN (swapAt g n cap X A Q R Y fv wr ((X.length : Nat) : Int) ((m : Int) + (j : Int) - (i : Int)) (i : Int) (by rw [← ez]; exact HP.out) (by rw [← ez]; exact hzl) (by omega) rfl (by omega) (by omega) hn)
        have HN : Hid (RotI T (X ++ R ++ Q ++ A ++ Y) n m i Q.length X R Q (A ++ Y)) := ⟨by simp, hxm, hRl, rfl, hi1, by omega, by simp; omega, by rw [← hT, hQR]; simp⟩
        generalize X.length = xl at *
        generalize hql : Q.length = ql at *
        clear hz hT hzl ez hQR hql
        go_wp2_with fail
        refine HC.out.mono ?_
        rintro e w1 ⟨⟨v, rfl⟩, hr, ho⟩
        have HO2 := hdN (HO.out.trans ho)
        have HR2 := hdN hr
        clear hr ho
        go_wp2_with fail
        exact ⟨⟨i, ql, _, _, _, _, _, rfl, (by congr 1; omega), HN, HR2, HO2⟩, by simp only [intOf]; omega⟩
end Go.Proofs.YtgmfjninimebmaaGreatDoor
namespace Go.Proofs.YtgmfjninimebmaaGreatDoor
open Go.RowKit Go.Maps
set_option linter.unusedVariables false
set_option linter.unusedSimpArgs false

/-- One more put in its place: it goes left past all that it comes before. -/
theorem ins_ok {D P Q : List En} {e : En} (hD : Srtd befE D) (hPQ : D = P ++ Q) (hQ : ∀ q ∈ Q, befE e q = true) (hP : ∀ p, P.getLast? = some p → befE e p = false) : Srtd befE (P ++ e :: Q) ∧ Sm befE (D ++ [e]) (P ++ e :: Q) := by
  subst hPQ
  obtain ⟨h1, h2, h3⟩ := List.pairwise_append.1 hD
  refine ⟨List.pairwise_append.2 ⟨h1, List.pairwise_cons.2 ⟨fun q hq => befE_swo.asy (hQ q hq), h2⟩, fun p hp x hx => ?_⟩, ?_⟩
  · rcases List.mem_cons.1 hx with rfl | hx
    · cases hl : P.getLast? with
      | none => rw [List.getLast?_eq_none_iff] at hl; subst hl; simp at hp
      | some z =>
        have hz := hP z hl
        obtain ⟨P', rfl⟩ := List.getLast?_eq_some_iff.1 hl
        rcases List.mem_append.1 hp with hp | hp
        · have := (List.pairwise_append.1 h1).2.2 p hp z (by simp)
          exact befE_swo.neg x z p hz this
        · have : p = z := by simpa using hp
          subst this; exact hz
    · exact h3 p hp x hx
  · have h4 : Sm befE (Q ++ [e]) ([e] ++ Q) := Sm.blocks befE_swo (fun x hx y hy => by
      have : y = e := by simpa using hy
      subst this; exact hQ x hx)
    have e1 : P ++ Q ++ [e] = P ++ (Q ++ [e]) := by simp
    rw [e1]
    exact Sm.app (Sm.refl P) h4
end Go.Proofs.YtgmfjninimebmaaGreatDoor
namespace Go.Proofs.YtgmfjninimebmaaGreatDoor
open Go.RowKit Go.Maps
set_option linter.unusedVariables false
set_option linter.unusedSimpArgs false

theorem set2 (U rest : List En) (p e : En) : ((U ++ p :: e :: rest).set (U.length + 1) p).set U.length e = U ++ e :: p :: rest := by
  induction U with
  | nil => rfl
  | cons u U ih => simp
theorem getU1 (U rest : List En) (p e : En) : (U ++ p :: e :: rest).getD (U.length + 1) en0 = e := by
  rw [List.getD_eq_getElem?_getD, List.getElem?_append_right (by omega)]
  have h : U.length + 1 - U.length = 1 := by omega
  rw [h]; rfl
/-- How far the inner loop has come. -/
def InsI (a : Nat) (X D R Y zs : List En) (e : En) (j : Nat) (P Q : List En) : Prop := D = P ++ Q ∧ j = a + P.length ∧ (∀ q ∈ Q, befE e q = true) ∧ zs = X ++ P ++ e :: (Q ++ R ++ Y)
set_option maxRecDepth 100000 in
set_option maxHeartbeats 8000000 in
theorem insSort_any (g n cap : Nat) (X S Y : List En) (w : World) (hp : RowE w g n (X ++ S ++ Y) n) (hl : (X ++ S ++ Y).length = n) (hn : n ≤ 1048576) (a b : Nat) (ha : a = X.length) (hb : b = X.length + S.length) (hS : S ≠ []) :
    Calls Tryz.prog 166 #[.slice (some ⟨g, 0, none⟩) n cap, .int .i64 a, .int .i64 b, .func (.func 86) #[] #[]] w fun e w' => (∃ v, e = .returned v) ∧ RowE w' g n (X ++ srt befE S ++ Y) n ∧ OnlyG g w w' := by
  have hlen : X.length + S.length + Y.length = n := by simp at hl; omega
  have HP := hdN hp
  have hwa : IntKind.i64.wrap ((a : Int) + 1) = (a : Int) + 1 := by rw [IntKind.wrap_i64]; omega
  obtain ⟨T, hT⟩ : ∃ T, T = X ++ srt befE S ++ Y := ⟨_, rfl⟩
  rw [← hT]
  have HT := hdN hT
  have HA := hdN ha
  have HBb := hdN hb
  have hLN := hdN hlen
  have hbn : b ≤ n := by omega
  have han : a ≤ n := by omega
  clear hp hl hT ha hb hlen
  go_enter Tryz.func166, Tryz.ntmps166
  go_wp2_with fail
  go_loopw [8] (fun v8 W => ∃ (i : Nat) (S1 D R : List En), v8 = .int .i64 (i : Int) ∧ i ≤ b ∧ Hid (S = S1 ++ R ∧ Srtd befE D ∧ Sm befE S1 D ∧ i = a + D.length ∧ D.length = S1.length) ∧ Hid (RowE W g n (X ++ D ++ R ++ Y) n) ∧ Hid (OnlyG g w W)) (fun v8 _ => b - (intOf v8).toNat)
  case atStart =>
    cases S with
    | nil => exact absurd rfl hS
    | cons x r => exact ⟨a + 1, [x], [x], r, (by first | rfl | (congr 1)), by have := HBb.out; have := HA.out; simp at *; omega, ⟨rfl, List.pairwise_singleton _ _, Sm.refl _, rfl, rfl⟩, (by show RowE _ _ _ _ _; have := HP.out; simpa using this), ⟨rfl, rfl, rfl, Nat.le_refl _, fun _ _ _ => rfl⟩⟩
  case round =>
    clear HP hwa
    obtain ⟨i, S1, D, R, rfl, hib, HS, HP, HO⟩ := hrel
    obtain ⟨hSR, hD, hSm, hiD, hDl⟩ := HS.out
    have hRl : i + R.length = b := by have h1 := HBb.out; have h2 := HA.out; rw [hSR, List.length_append] at h1; omega
    cases R with
    | nil =>
      have hlt : ¬ (i : Int) < (b : Int) := by simp at hRl; omega
      have HE : Hid (X ++ D ++ [] ++ Y = T) := by
        show _ = _
        rw [HT.out, List.append_nil, hSR, List.append_nil, srt_of befE_swo hD hSm]
      clear hSR hD hSm
      go_wp2_with fail
      go_end0
      exact ⟨⟨_, rfl⟩, by rw [← HE.out]; exact HP.out, HO.out⟩
    | cons e R =>
      have hlt : (i : Int) < (b : Int) := by simp at hRl; omega
      have HD := hdN hD
      have HLN : Hid (X.length + D.length + (R.length + 1) + Y.length = n) := by have h1 := hLN.out; rw [hSR] at h1; simp at h1; show _ = _; omega
      have HSR := hdN hSR
      have HSm := hdN hSm
      have HiD := hdN hiD
      have HDl := hdN hDl
      clear hD hSR hSm hiD hDl
      go_wp2_with fail
      go_loopw [9] (fun v9 W => ∃ (j : Nat) (P Q zs : List En), v9 = .int .i64 (j : Int) ∧ Hid (InsI a X D R Y zs e j P Q) ∧ Hid (RowE W g n zs n) ∧ Hid (OnlyG g w W)) (fun v9 _ => (intOf v9).toNat)
      case atStart => exact ⟨i, D, [], X ++ D ++ e :: R ++ Y, rfl, ⟨by simp, HiD.out, fun q hq => by simp at hq, by simp⟩, HP, HO⟩
      case round =>
        clear HP HO
        obtain ⟨j, P, Q, zs, rfl, HI, HP, HO⟩ := hrel
        obtain ⟨hPQ, hjP, hQ, hz⟩ := HI.out
        by_cases hja : j = a
        · have hP0 : P = [] := List.eq_nil_of_length_eq_zero (by omega)
          have hja' : ¬ (a : Int) < (j : Int) := by omega
          have hja3 : ¬ a < j := by omega
          have HN : Hid (S = (S1 ++ [e]) ++ R ∧ Srtd befE (P ++ e :: Q) ∧ Sm befE (S1 ++ [e]) (P ++ e :: Q) ∧ i + 1 = a + (P ++ e :: Q).length ∧ (P ++ e :: Q).length = (S1 ++ [e]).length) := by
            obtain ⟨k1, k2⟩ := ins_ok HD.out hPQ hQ (fun p hp => by rw [hP0] at hp; simp at hp)
            have h3 := HiD.out
            have h4 := HDl.out
            rw [hPQ, List.length_append] at h3 h4
            exact ⟨by rw [HSR.out]; simp, k1, (Sm.app HSm.out (Sm.refl [e])).trans k2, by simp; omega, by simp; omega⟩
          have HP2 : Hid (RowE wr g n (X ++ (P ++ e :: Q) ++ R ++ Y) n) := by show RowE _ _ _ _ _; have := HP.out; rw [hz] at this; simpa using this
          clear hPQ hjP hQ hz hP0
          go_wp2_with fail
          refine wp_region_noPanic ?_
          refine wp_region_held_drew (S := (fun w' => True)) (by kernel_rfl) ?_ (fun hHeld => ?_)
          · exact trivial
          refine wpAnyH_take (i := 0) (oi := { dst := some 18, op := Op.move (Operand.tmp 9), type := 3, pos := "zsortanyfunc.go:12", after := #[], guard := none }) (v := ?_) rfl (by kernel_rfl) (by kernel_rfl) (by kernel_rfl) (fun _ _ _ h => h) (Or.inl ⟨by rfl, ?_⟩) (by assumption) ?_
          rotate_left
          · intro w' hSw
            (try dsimp only at hSw)
            go_simp
            try with_reducible rfl
          simp only [Act.put, List.setIfInBounds_toArray, List.set_cons_zero, List.set_cons_succ]
          refine wpAnyH_take (i := 1) (oi := { dst := some 19, op := Op.move (Operand.tmp 1), type := 3, pos := "zsortanyfunc.go:12", after := #[], guard := none }) (v := ?_) rfl (by kernel_rfl) (by kernel_rfl) (by kernel_rfl) (fun _ _ _ h => h) (Or.inl ⟨by rfl, ?_⟩) (by assumption) ?_
          rotate_left
          · intro w' hSw
            (try dsimp only at hSw)
            go_simp
            try with_reducible rfl
          simp only [Act.put, List.setIfInBounds_toArray, List.set_cons_zero, List.set_cons_succ]
          refine wpAnyH_take (i := 2) (oi := { dst := some 20, op := Op.binOp BinOp.gtr 3 (Operand.tmp 18) (Operand.tmp 19) 3, type := 4, pos := "zsortanyfunc.go:12", after := #[{ on := 0, ground := Ground.data }, { on := 1, ground := Ground.data }], guard := none }) (v := .bool false) rfl (by kernel_rfl) (by kernel_rfl) (by kernel_rfl) (fun _ _ _ h => h) (Or.inl ⟨by rfl, ?_⟩) (by assumption) ?_
          · intro w' hSw
            (try dsimp only at hSw)
            go_simp
            try omega
          simp only [Act.put, List.setIfInBounds_toArray, List.set_cons_zero, List.set_cons_succ]
          refine wpAnyH_take (i := 3) (oi := { dst := some 21, op := Op.move (Operand.tmp 20), type := 4, pos := "zsortanyfunc.go:12", after := #[{ on := 2, ground := Ground.data }], guard := none }) (v := ?_) rfl (by kernel_rfl) (by kernel_rfl) (by kernel_rfl) (fun _ _ _ h => h) (Or.inl ⟨by rfl, ?_⟩) (by assumption) ?_
          rotate_left
          · intro w' hSw
            (try dsimp only at hSw)
            go_simp
            try with_reducible rfl
          simp only [Act.put, List.setIfInBounds_toArray, List.set_cons_zero, List.set_cons_succ]
          refine wpAnyH_take (i := 4) (oi := { dst := some 22, op := Op.move (Operand.tmp 3), type := 137, pos := "zsortanyfunc.go:12", after := #[{ on := 3, ground := Ground.guard }], guard := some (3, true) }) (v := undef) rfl (by kernel_rfl) (by kernel_rfl) (by kernel_rfl) (fun _ _ _ h => h) (Or.inr ⟨by rfl, rfl⟩) (by assumption) ?_
          simp only [Act.put, List.setIfInBounds_toArray, List.set_cons_zero, List.set_cons_succ]
          refine wpAnyH_take (i := 5) (oi := { dst := some 23, op := Op.move (Operand.tmp 0), type := 26, pos := "zsortanyfunc.go:12", after := #[{ on := 3, ground := Ground.guard }], guard := some (3, true) }) (v := undef) rfl (by kernel_rfl) (by kernel_rfl) (by kernel_rfl) (fun _ _ _ h => h) (Or.inr ⟨by rfl, rfl⟩) (by assumption) ?_
          simp only [Act.put, List.setIfInBounds_toArray, List.set_cons_zero, List.set_cons_succ]
          refine wpAnyH_take (i := 6) (oi := { dst := some 24, op := Op.move (Operand.tmp 9), type := 3, pos := "zsortanyfunc.go:12", after := #[{ on := 3, ground := Ground.guard }], guard := some (3, true) }) (v := undef) rfl (by kernel_rfl) (by kernel_rfl) (by kernel_rfl) (fun _ _ _ h => h) (Or.inr ⟨by rfl, rfl⟩) (by assumption) ?_
          simp only [Act.put, List.setIfInBounds_toArray, List.set_cons_zero, List.set_cons_succ]
          refine wpAnyH_take (i := 7) (oi := { dst := some 25, op := Op.indexAddr 26 (Operand.tmp 23) (Operand.tmp 24), type := 0, pos := "zsortanyfunc.go:12", after := #[{ on := 5, ground := Ground.data }, { on := 6, ground := Ground.data }, { on := 3, ground := Ground.guard }], guard := some (3, true) }) (v := undef) rfl (by kernel_rfl) (by kernel_rfl) (by kernel_rfl) (fun _ _ _ h => h) (Or.inr ⟨by rfl, rfl⟩) (by assumption) ?_
          simp only [Act.put, List.setIfInBounds_toArray, List.set_cons_zero, List.set_cons_succ]
          refine wpAnyH_take (i := 8) (oi := { dst := some 26, op := Op.load 50 (Operand.tmp 25), type := 50, pos := "zsortanyfunc.go:12", after := #[{ on := 7, ground := Ground.data }, { on := 3, ground := Ground.guard }], guard := some (3, true) }) (v := undef) rfl (by kernel_rfl) (by kernel_rfl) (by kernel_rfl) (fun _ _ _ h => h) (Or.inr ⟨by rfl, rfl⟩) (by assumption) ?_
          simp only [Act.put, List.setIfInBounds_toArray, List.set_cons_zero, List.set_cons_succ]
          refine wpAnyH_take (i := 9) (oi := { dst := some 27, op := Op.move (Operand.tmp 0), type := 26, pos := "zsortanyfunc.go:12", after := #[{ on := 3, ground := Ground.guard }], guard := some (3, true) }) (v := undef) rfl (by kernel_rfl) (by kernel_rfl) (by kernel_rfl) (fun _ _ _ h => h) (Or.inr ⟨by rfl, rfl⟩) (by assumption) ?_
          simp only [Act.put, List.setIfInBounds_toArray, List.set_cons_zero, List.set_cons_succ]
          refine wpAnyH_take (i := 10) (oi := { dst := some 28, op := Op.move (Operand.tmp 9), type := 3, pos := "zsortanyfunc.go:12", after := #[{ on := 3, ground := Ground.guard }], guard := some (3, true) }) (v := undef) rfl (by kernel_rfl) (by kernel_rfl) (by kernel_rfl) (fun _ _ _ h => h) (Or.inr ⟨by rfl, rfl⟩) (by assumption) ?_
          simp only [Act.put, List.setIfInBounds_toArray, List.set_cons_zero, List.set_cons_succ]
          refine wpAnyH_take (i := 11) (oi := { dst := some 29, op := Op.binOp BinOp.sub 3 (Operand.tmp 28) (Operand.const (Value.int IntKind.i64 1)) 3, type := 3, pos := "zsortanyfunc.go:12", after := #[{ on := 10, ground := Ground.data }, { on := 3, ground := Ground.guard }], guard := some (3, true) }) (v := undef) rfl (by kernel_rfl) (by kernel_rfl) (by kernel_rfl) (fun _ _ _ h => h) (Or.inr ⟨by rfl, rfl⟩) (by assumption) ?_
          simp only [Act.put, List.setIfInBounds_toArray, List.set_cons_zero, List.set_cons_succ]
          refine wpAnyH_take (i := 12) (oi := { dst := some 30, op := Op.indexAddr 26 (Operand.tmp 27) (Operand.tmp 29), type := 0, pos := "zsortanyfunc.go:12", after := #[{ on := 9, ground := Ground.data }, { on := 11, ground := Ground.data }, { on := 3, ground := Ground.guard }], guard := some (3, true) }) (v := undef) rfl (by kernel_rfl) (by kernel_rfl) (by kernel_rfl) (fun _ _ _ h => h) (Or.inr ⟨by rfl, rfl⟩) (by assumption) ?_
          simp only [Act.put, List.setIfInBounds_toArray, List.set_cons_zero, List.set_cons_succ]
          refine wpAnyH_take (i := 13) (oi := { dst := some 31, op := Op.load 50 (Operand.tmp 30), type := 50, pos := "zsortanyfunc.go:12", after := #[{ on := 12, ground := Ground.data }, { on := 3, ground := Ground.guard }], guard := some (3, true) }) (v := undef) rfl (by kernel_rfl) (by kernel_rfl) (by kernel_rfl) (fun _ _ _ h => h) (Or.inr ⟨by rfl, rfl⟩) (by assumption) ?_
          simp only [Act.put, List.setIfInBounds_toArray, List.set_cons_zero, List.set_cons_succ]
          refine wpAnyH_take (i := 14) (oi := { dst := some 32, op := Op.call { callee := Callee.value (Operand.tmp 22), args := #[Operand.tmp 26, Operand.tmp 31], argTypes := #[50, 50] }, type := 3, pos := "zsortanyfunc.go:12", after := #[{ on := 4, ground := Ground.data }, { on := 8, ground := Ground.data }, { on := 13, ground := Ground.data }, { on := 3, ground := Ground.chain }, { on := 3, ground := Ground.guard }], guard := some (3, true) }) (v := undef) rfl (by kernel_rfl) (by kernel_rfl) (by kernel_rfl) (fun _ _ _ h => h) (Or.inr ⟨by rfl, rfl⟩) (by assumption) ?_
          simp only [Act.put, List.setIfInBounds_toArray, List.set_cons_zero, List.set_cons_succ]
          refine wpAnyH_take (i := 15) (oi := { dst := some 33, op := Op.binOp BinOp.lss 3 (Operand.tmp 32) (Operand.const (Value.int IntKind.i64 0)) 3, type := 4, pos := "zsortanyfunc.go:12", after := #[{ on := 14, ground := Ground.data }, { on := 3, ground := Ground.guard }], guard := some (3, true) }) (v := undef) rfl (by kernel_rfl) (by kernel_rfl) (by kernel_rfl) (fun _ _ _ h => h) (Or.inr ⟨by rfl, rfl⟩) (by assumption) ?_
          simp only [Act.put, List.setIfInBounds_toArray, List.set_cons_zero, List.set_cons_succ]
          refine wpAnyH_take (i := 16) (oi := { dst := some 34, op := Op.pick (Operand.tmp 21) (Operand.tmp 33) (Operand.const (Value.bool false)), type := 4, pos := "zsortanyfunc.go:12", after := #[{ on := 3, ground := Ground.data }, { on := 15, ground := Ground.data }], guard := none }) (v := ?_) rfl (by kernel_rfl) (by kernel_rfl) (by kernel_rfl) (fun _ _ _ h => h) (Or.inl ⟨by rfl, ?_⟩) (by assumption) ?_
          rotate_left
          · intro w' hSw
            (try dsimp only at hSw)
            go_simp
            try with_reducible rfl
          simp only [Act.put, List.setIfInBounds_toArray, List.set_cons_zero, List.set_cons_succ]
          refine wpAnyH_done (by kernel_rfl) ?_ _
          refine NoPanic.normal ?_
          go_wp2_with fail
          refine ⟨⟨i + 1, S1 ++ [e], P ++ e :: Q, R, by go_num, by simp at hRl; omega, HN, ?_, ?_⟩, by simp only [intOf]; omega⟩
          · exact RowE.block HP2.out (drew_heap _ _)
          · exact HO.out.trans (OnlyG.of ((Below.refl _ _).drew))
        · obtain ⟨P', p, hPp⟩ : ∃ P' p, P = P' ++ [p] := by
            rcases List.eq_nil_or_concat P with h | ⟨P', p, h⟩
            · rw [h] at hjP; simp at hjP; exact absurd hjP hja
            · exact ⟨P', p, by simpa using h⟩
          obtain ⟨l, hl⟩ : ∃ l, l = (X ++ P').length := ⟨_, rfl⟩
          have hjl : j = l + 1 := by rw [hjP, hPp, hl, HA.out]; simp; omega
          subst hjl
          have hal : a ≤ l := by rw [hl, HA.out]; simp
          have hz2 : zs = (X ++ P') ++ p :: e :: (Q ++ R ++ Y) := by rw [hz, hPp]; simp
          have hzl : zs.length = n := by have h1 := HLN.out; rw [hPQ, hPp] at h1; rw [hz2]; simp at *; omega
          have hln : l + 1 < n := by rw [← hzl, hz2, hl]; simp; omega
          have gp : zs.getD l en0 = p := by rw [hz2, hl]; simp [List.getD]
          have ge : zs.getD (l + 1) en0 = e := by rw [hz2, hl]; exact getU1 _ _ _ _
          have HSET : Hid ((zs.set (l + 1) p).set l e = X ++ P' ++ e :: ((p :: Q) ++ R ++ Y)) := by
            show _ = _
            rw [hz2, hl]
            have := set2 (X ++ P') (Q ++ R ++ Y) p e
            simpa using this
          obtain ⟨cs, r1, r2, r3⟩ := HP.out
          obtain ⟨c0, c1, c2, c3⟩ := r3 l (by omega)
          obtain ⟨d0, d1, d2, d3⟩ := r3 (l + 1) hln
          rw [gp] at c0 c1 c2 c3
          rw [ge] at d0 d1 d2 d3
          have cell : ∀ o v, cs[o]? = some v → wr.cell? ⟨g, o, none⟩ = some v := fun o v h => by simp only [World.cell?, r1]; exact h
          have x0 := cell _ _ c0
          have x1 := cell _ _ c1
          have x2 := cell _ _ c2
          have x3 := cell _ _ c3
          have y0 := cell _ _ d0
          have y1 := cell _ _ d1
          have y2 := cell _ _ d2
          have y3 := cell _ _ d3
          have hgl := heap_lt r1
          have HC := hdN (entryOrder_any e p wr.drew)
          have HL := hdN (ordE_lt e p)
          have hja' : (a : Int) < (l : Int) + 1 := by omega
          have hja3 : a < l + 1 := by omega
          have k0 : (0 : Int) ≤ (l : Int) + 1 := by omega
          have k1 : (l : Int) + 1 < (n : Int) := by omega
          have k2 : (l : Int) < (n : Int) := by omega
          have k3 : IntKind.i64.wrap ((l : Int) + 1 - 1) = (l : Int) := by rw [IntKind.wrap_i64]; omega
          have k4 : IntKind.i64.wrap (l : Int) = (l : Int) := by rw [IntKind.wrap_i64]; omega
          have k5 : (l : Int) + 1 - 1 = (l : Int) := by omega
          have k6 : ((l : Int) + 1).toNat = l + 1 := by omega
          have HZ := hdN hzl
          have HPQ := hdN hPQ
          have HPp := hdN hPp
          have HQ := hdN hQ
          have HZ2 := hdN hz2
          have HJ := hdN hjP
          clear hPQ hPp hQ hz hz2 hl gp ge c0 c1 c2 c3 d0 d1 d2 d3 cell r3 r1 hzl hjP hja
          cases hbf : befE e p with
          | true =>
            have hlt0 : ordE e p < 0 := by have := HL.out; rw [hbf] at this; simp at this; omega
            have HN : Hid (InsI a X D R Y (X ++ P' ++ e :: ((p :: Q) ++ R ++ Y)) e l P' (p :: Q)) := ⟨by rw [HPQ.out, HPp.out]; simp, by have := HJ.out; rw [HPp.out] at this; simp at this; omega, fun q hq => by
              rcases List.mem_cons.1 hq with rfl | hq
              · exact hbf
              · exact HQ.out q hq, rfl⟩
            clear hbf HL
            generalize ordE e p = oi at *
            go_wp2_with fail
            go_region_held3 (fun w' => w'.cell? ⟨g, l * 4, none⟩ = some (.string p.ky) ∧ w'.cell? ⟨g, l * 4 + 1, none⟩ = some (.int .i64 p.sq) ∧ w'.cell? ⟨g, l * 4 + 2, none⟩ = some (.int .i64 p.kd) ∧ w'.cell? ⟨g, l * 4 + 3, none⟩ = some (.string p.vl) ∧ w'.cell? ⟨g, (l + 1) * 4, none⟩ = some (.string e.ky) ∧ w'.cell? ⟨g, (l + 1) * 4 + 1, none⟩ = some (.int .i64 e.sq) ∧ w'.cell? ⟨g, (l + 1) * 4 + 2, none⟩ = some (.int .i64 e.kd) ∧ w'.cell? ⟨g, (l + 1) * 4 + 3, none⟩ = some (.string e.vl)) (simp [go_sem, *])
              (first | (go_at_call 86; refine HC.out.mono ?_; rintro ee w6 ⟨rfl, hb6⟩; have HG6 := hdN ((Below.refl wr.heap.size wr).drew.trans hb6); have u0 := (HG6.out.cell (p := ⟨g, l * 4, none⟩) hgl).trans x0; have u1 := (HG6.out.cell (p := ⟨g, l * 4 + 1, none⟩) hgl).trans x1; have u2 := (HG6.out.cell (p := ⟨g, l * 4 + 2, none⟩) hgl).trans x2; have u3 := (HG6.out.cell (p := ⟨g, l * 4 + 3, none⟩) hgl).trans x3; have v0 := (HG6.out.cell (p := ⟨g, (l + 1) * 4, none⟩) hgl).trans y0; have v1 := (HG6.out.cell (p := ⟨g, (l + 1) * 4 + 1, none⟩) hgl).trans y1; have v2 := (HG6.out.cell (p := ⟨g, (l + 1) * 4 + 2, none⟩) hgl).trans y2; have v3 := (HG6.out.cell (p := ⟨g, (l + 1) * 4 + 3, none⟩) hgl).trans y3; clear hb6))
            have HP6 : Hid (RowE w6 g n zs n) := RowE.block HP.out (HG6.out.block g hgl)
            have HO6 := hdN (HO.out.trans (OnlyG.of HG6.out))
            have hgl6 : g < w6.heap.size := Nat.lt_of_lt_of_le hgl HG6.out.size
            have fz : ∀ o, w6.frozen? ⟨g, o, none⟩ = false := fun o => by
              obtain ⟨cs', q1, -⟩ := HP6.out
              simp [World.frozen?, q1]
            have HPx : Hid (RowE (putE (putE w6 g (l + 1) p) g l e).drew g n (X ++ P' ++ e :: ((p :: Q) ++ R ++ Y)) n) := by
              show RowE _ _ _ _ _
              rw [← HSET.out]
              exact ((HP6.out.put HZ.out hln p).put (by rw [List.length_set]; exact HZ.out) (by omega) e).block (drew_heap _ _)
            have HOx : Hid (OnlyG g w (putE (putE w6 g (l + 1) p) g l e).drew) := HO6.out.trans (((putE_only _ _ _ _).trans (putE_only _ _ _ _)).trans (OnlyG.of ((Below.refl _ _).drew)))
            clear x0 x1 x2 x3 y0 y1 y2 y3 HP HO HC HG6 HP6 HO6
            unfold putE at HPx HOx
            go_wp2_with fail
            go_region_law (fail)
            all_goals
              clear u0 u1 u2 u3 v0 v1 v2 v3 fz
              go_wp2_with fail
              exact ⟨⟨l, P', p :: Q, _, by first | rfl | go_num, HN, HPx, HOx⟩, by simp only [intOf]; omega⟩
          | false =>
            have hlt0 : ¬ ordE e p < 0 := by have := HL.out; rw [hbf] at this; simp at this; omega
            have HN : Hid (S = (S1 ++ [e]) ++ R ∧ Srtd befE (P ++ e :: Q) ∧ Sm befE (S1 ++ [e]) (P ++ e :: Q) ∧ i + 1 = a + (P ++ e :: Q).length ∧ (P ++ e :: Q).length = (S1 ++ [e]).length) := by
              obtain ⟨k1, k2⟩ := ins_ok HD.out HPQ.out HQ.out (fun z hz => by rw [HPp.out] at hz; simp at hz; rw [← hz]; exact hbf)
              have h3 := HiD.out
              have h4 := HDl.out
              rw [HPQ.out, List.length_append] at h3 h4
              exact ⟨by rw [HSR.out]; simp, k1, (Sm.app HSm.out (Sm.refl [e])).trans k2, by simp; omega, by simp; omega⟩
            have HPw : Hid (RowE wr g n (X ++ (P ++ e :: Q) ++ R ++ Y) n) := by show RowE _ _ _ _ _; have := HP.out; rw [HZ2.out] at this; rw [HPp.out]; simpa using this
            clear hbf HL
            generalize ordE e p = oi at *
            go_wp2_with fail
            go_region_held3 (fun w' => w'.cell? ⟨g, l * 4, none⟩ = some (.string p.ky) ∧ w'.cell? ⟨g, l * 4 + 1, none⟩ = some (.int .i64 p.sq) ∧ w'.cell? ⟨g, l * 4 + 2, none⟩ = some (.int .i64 p.kd) ∧ w'.cell? ⟨g, l * 4 + 3, none⟩ = some (.string p.vl) ∧ w'.cell? ⟨g, (l + 1) * 4, none⟩ = some (.string e.ky) ∧ w'.cell? ⟨g, (l + 1) * 4 + 1, none⟩ = some (.int .i64 e.sq) ∧ w'.cell? ⟨g, (l + 1) * 4 + 2, none⟩ = some (.int .i64 e.kd) ∧ w'.cell? ⟨g, (l + 1) * 4 + 3, none⟩ = some (.string e.vl)) (simp [go_sem, *])
              (first | (go_at_call 86; refine HC.out.mono ?_; rintro ee w6 ⟨rfl, hb6⟩; have HG6 := hdN ((Below.refl wr.heap.size wr).drew.trans hb6); have u0 := (HG6.out.cell (p := ⟨g, l * 4, none⟩) hgl).trans x0; have u1 := (HG6.out.cell (p := ⟨g, l * 4 + 1, none⟩) hgl).trans x1; have u2 := (HG6.out.cell (p := ⟨g, l * 4 + 2, none⟩) hgl).trans x2; have u3 := (HG6.out.cell (p := ⟨g, l * 4 + 3, none⟩) hgl).trans x3; have v0 := (HG6.out.cell (p := ⟨g, (l + 1) * 4, none⟩) hgl).trans y0; have v1 := (HG6.out.cell (p := ⟨g, (l + 1) * 4 + 1, none⟩) hgl).trans y1; have v2 := (HG6.out.cell (p := ⟨g, (l + 1) * 4 + 2, none⟩) hgl).trans y2; have v3 := (HG6.out.cell (p := ⟨g, (l + 1) * 4 + 3, none⟩) hgl).trans y3; clear hb6))
            have HP6 : Hid (RowE w6 g n (X ++ (P ++ e :: Q) ++ R ++ Y) n) := RowE.block HPw.out (HG6.out.block g hgl)
            have HO6 := hdN (HO.out.trans (OnlyG.of HG6.out))
            clear x0 x1 x2 x3 y0 y1 y2 y3 HPw HP HO HC HG6
            go_wp2_with fail
            exact ⟨⟨i + 1, S1 ++ [e], P ++ e :: Q, R, by go_num, by simp at hRl; omega, HN, HP6, HO6⟩, by simp only [intOf]; omega⟩
end Go.Proofs.YtgmfjninimebmaaGreatDoor
