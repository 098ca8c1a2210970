import Derived.Test.YtgkhjjnhikbdaaaNaJ
namespace Go.Proofs.Ytgkhjjnhikbdaaa
open Go.RowKit Go.Maps
set_option linter.unusedVariables false
set_option linter.unusedSimpArgs false

theorem ResE.low {w : World} {B : Nat} {a : Option Addr} {xs : List En} (h : ResE w B a xs) : xs ≠ [] → ∀ b off, a = some ⟨b, off, none⟩ → B ≤ b := fun hn b off e => by
  rcases h with h | ⟨g, h1, h2, -⟩
  · exact absurd h hn
  · rw [e] at h1; cases h1; exact h2
theorem cell_first1J (w : World) (x : Value) (t : TypeId) : ∀ j u, [x][j]? = some u → (w.alloc (.cells #[x] t)).cell? ((⟨w.heap.size, 0, none⟩ : Addr).add j) = some u := by
  intro j v hj
  rw [Go.WideShapes.add_plain]
  match j, hj with
  | 0, hj => simp at hj; subst hj; simp
set_option maxRecDepth 100000 in
set_option maxHeartbeats 4000000 in
theorem drawNewest_any (a : Option Addr) (cap : Nat) (bs : List UInt8) (w : World) (hx : LieB w a bs) (hl : bs.length ≤ 1048576) :
    Calls Try.prog 14 #[.slice a bs.length cap] w fun e w' => ∃ g c L, e = .returned (.slice (some ⟨g, 0, none⟩) L.length c) ∧ L.length ≤ c ∧ L.map LV.xs = dnL bs ∧ LieSS w' (some ⟨g, 0, none⟩) L ∧ Below w.heap.size w w' := by
  have HT := hdN (fun (w' : World) (q n : Nat) (hb : Below w.heap.size w w') (h1 : q ≤ 1000000) (h2 : n ≤ 2000000) => l1Take_tk a cap bs q n w' (hx.below hb) hl h1 h2)
  have HD := hdN (fun (w' : World) (p n seq : Nat) (hb : Below w.heap.size w w') (h1 : p ≤ 50000) (h2 : n ≤ 1000) (h3 : seq ≤ 100000) => l2DrawEntries_de a cap bs p n seq w' (hx.below hb) hl h1 h2 h3)
  obtain ⟨i0, hi, hz0, hz1, hz2⟩ := info_parts slices_info
  have hN := tk_lt bs 0 5 (by omega)
  have HL : Hid (dnL bs = (dnS bs (tk bs 0 5)).1) := rfl
  have HT0 := hdN (HT.out w 0 5 (Below.refl _ _) (by omega) (by omega))
  have HSt := hdN (fun (W : World) hb => DnI.start w bs W hb)
  generalize dnL bs = R at *
  generalize tk bs 0 5 = n at *
  clear hx
  generalize hlen : bs.length = len at *
  clear hlen
  go_enter Try.func14, Try.ntmps14
  go_wp2_with fail
  refine HT0.out.mono ?_
  rintro e w1 ⟨rfl, hb1⟩
  have H0 := hdN (HSt.out w1 hb1)
  clear hb1 HT0 HSt
  go_wp2_with fail
  go_loopw [4, 5, 6] (fun v4 v5 v6 W => ∃ (k : Nat) (L : List LV), v6 = .int .i64 (k : Int) ∧ k ≤ n ∧ v4 = .int .i64 (((dnS bs k).2 : Nat) : Int) ∧ Hid (DnI w bs k v5 L W)) (fun _ _ v6 _ => n - (intOf v6).toNat)
  case atStart => exact ⟨0, [], rfl, Nat.zero_le _, rfl, H0⟩
  case round =>
    clear H0
    obtain ⟨k, L, rfl, hk, rfl, HI⟩ := hrel
    obtain ⟨hp1, hp2⟩ := dnS_p bs k
    by_cases hkn : k < n
    · have hkn' : (k : Int) < (n : Int) := by omega
      have hm := tk_lt bs (dnS bs k).2 9 (by omega)
      have hq := tk_lt bs ((dnS bs k).2 + 1) 12 (by omega)
      have HX : Hid ((dnS bs (k + 1)).1 = (dnS bs k).1 ++ [deL bs ((dnS bs k).2 + 2) (tk bs ((dnS bs k).2 + 1) 12) (tk bs (dnS bs k).2 9)]) := rfl
      have HPn : Hid ((dnS bs (k + 1)).2 = (dnS bs k).2 + 2 + 4 * tk bs (dnS bs k).2 9) := rfl
      have hbl := HI.out.bel
      have HA := hdN (HT.out wr (dnS bs k).2 9 hbl (by omega) (by omega))
      have HSn := hdN (fun (v' : Value) (W1 W2 W3 : World) (c : LV) h1 hc hcs hx h2 hg hat hs hown => DnI.snoc (v' := v') (W1 := W1) (W2 := W2) (W3 := W3) (c := c) HI.out h1 hc hcs hx h2 hg hat hs hown)
      have HRow := hdN HI.out.row
      have HB := hdN hbl
      have HSl := hdN (deL_len bs ((dnS bs k).2 + 2) (tk bs ((dnS bs k).2 + 1) 12) (tk bs (dnS bs k).2 9))
      have HOB : Hid (∀ g, Value.ownBlock u5 = some g → w.heap.size ≤ g ∧ g < wr.heap.size) := fun g e => ⟨owns_baseN HI.out.row g e, owns_ltB HI.out.row g e⟩
      clear hbl HI
      generalize (dnS bs k).2 = p at *
      generalize tk bs p 9 = m at *
      have HB1' := hdN (fun (w' : World) (hb : Below w.heap.size w w') => HT.out w' (p + 1) 12 hb (by omega) (by omega))
      generalize tk bs (p + 1) 12 = sq at *
      have HDr := hdN (fun (w' : World) (hb : Below w.heap.size w w') => HD.out w' (p + 2) m sq hb (by omega) (by omega) (by omega))
      generalize deL bs (p + 2) sq m = es at *
      go_wp2_with fail
      refine HA.out.mono ?_
      rintro e w2 ⟨rfl, hb2⟩
      have HB2 := hdN (HB.out.trans (hb2.mono HB.out.size))
      have HK2 := hdN hb2
      clear hb2 HA
      go_wp2_with fail
      refine (HB1'.out w2 HB2.out).mono ?_
      rintro e w3 ⟨rfl, hb3⟩
      have HB3 := hdN (HB2.out.trans (hb3.mono HB2.out.size))
      have HK3 := hdN (HK2.out.trans (hb3.mono HK2.out.size))
      clear hb3 HB1' HB2 HK2
      go_wp2_with fail
      refine (HDr.out w3 HB3.out).mono ?_
      rintro e w4 ⟨a4, c4, rfl, r4, hb4⟩
      have HR4 := hdN r4
      have HB4 := hdN (HB3.out.trans (hb4.mono HB3.out.size))
      have HK4 := hdN (HK3.out.trans (hb4.mono HK3.out.size))
      have HS3 := hdN HK3.out.size
      clear r4 hb4 HDr HB3 HK3
      go_wp2_with (at_builtin; refine wpList_append_own_at _ rfl _ _ 26 rfl w.heap.size 24 i0 _ 1 24 Try.underlying26 hi hz0 hz1 hz2 rfl (by decide) _ _ _ rfl ((owns_keepB HRow.out (fun g hg => HK4.out.block g (HOB.out g hg).2)).alloc _) ⟨w4.heap.size, 0, none⟩ 1 1 [.slice a4 m c4] rfl rfl (cell_first1J w4 _ _) (fun x hx => by simp at hx; subst hx; rfl) (by unfold maxLen; omega) (by omega) (by have h2 := HB4.out.size; simp; omega) ?_; intro v8 w8 hown8 hgrow8 _ hat8; have HO8 := hdN hown8; have HG8 := hdN hgrow8; have HA8 := hdN hat8; clear hown8 hgrow8 hat8)
      have hba : Below w4.heap.size w4 (w4.alloc (.cells #[.slice a4 m c4] 24)) := (Below.refl _ _).alloc (Nat.le_refl _) _
      have HF := hdN (HSn.out v8 w4 _ w8 ⟨a4, c4, es⟩ HK4.out HR4.out.lie (fun hn b off e => Nat.le_trans HS3.out (HR4.out.low hn b off e)) HX.out hba HG8.out HA8.out (owns_succD HO8.out) (by show World.ownsRow _ _ _ _ _ _ (_ ++ [.slice a4 es.length c4]); rw [HSl.out]; exact HO8.out))
      refine ⟨⟨k + 1, _, by first | rfl | go_num, by omega, ?_, HF⟩, by simp only [intOf]; omega⟩
      rw [HPn.out]
      first | rfl | (congr 1; omega) | go_num
    · have hkn' : ¬ (k : Int) < (n : Int) := by omega
      have hke : k = n := by omega
      subst hke
      obtain ⟨g, c, rfl, hlc, hL⟩ := HI.out.lieSS
      have HLs := hdN hL
      have HB := hdN HI.out.bel
      have HXs := hdN (HI.out.xs.trans HL.out.symm)
      clear HI hL
      go_wp2_with fail
      go_ret
      exact ⟨g, c, L, rfl, hlc, HXs.out, HLs.out, HB.out⟩
theorem LieSS.takeJ {w : World} {a : Option Addr} {L : List LV} (h : LieSS w a L) (k : Nat) : LieSS w a (L.take k) := by
  rcases h with h | ⟨b, off, h1, h2, h3⟩
  · exact .inl (by rw [h]; simp)
  · refine .inr ⟨b, off, h1, h2, fun i hi => ?_⟩
    rw [List.length_take] at hi
    have e : (L.take k).getD i lv0 = L.getD i lv0 := by rw [List.getD_eq_getElem?_getD, List.getElem?_take_of_lt (by omega), ← List.getD_eq_getElem?_getD]
    rw [e]
    exact h3 i (by omega)
theorem LieSS.dropJ {w : World} {b off : Nat} {L : List LV} (h : LieSS w (some ⟨b, off, none⟩) L) (k : Nat) : LieSS w (some ⟨b, off + k, none⟩) (L.drop k) := by
  rcases h with h | ⟨b', off', h1, h2, h3⟩
  · exact .inl (by rw [h]; simp)
  · cases h1
    refine .inr ⟨b, off + k, rfl, h2, fun i hi => ?_⟩
    rw [List.length_drop] at hi
    have e : (L.drop k).getD i lv0 = L.getD (k + i) lv0 := by rw [List.getD_eq_getElem?_getD, List.getElem?_drop, ← List.getD_eq_getElem?_getD]
    rw [e, Nat.add_assoc]
    exact h3 (k + i) (by omega)
theorem allE_map (L : List LV) : allE L = (L.map LV.xs).flatten := by unfold allE; rw [List.flatMap_def]
theorem flat_len : ∀ (X : List (List En)), (∀ xs ∈ X, xs.length ≤ 8) → X.flatten.length ≤ X.length * 8
  | [], _ => by simp
  | x :: X, h => by
    have h1 := flat_len X (fun y hy => h y (by simp [hy]))
    have h2 := h x (by simp)
    rw [List.flatten_cons, List.length_append, List.length_cons, Nat.add_mul]
    omega
end Go.Proofs.Ytgkhjjnhikbdaaa
