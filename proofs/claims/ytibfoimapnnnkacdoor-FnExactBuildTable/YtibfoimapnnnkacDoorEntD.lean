
import Derived.Test.YtibfoimapnnnkacDoorFrG

import Derived.Test.YtibfoimapnnnkacDoorEntC
namespace Go.Proofs.YtibfoimapnnnkacDoor
open Go.RowKit Go.Maps
set_option linter.unusedVariables false
set_option linter.unusedSimpArgs false

/-- The bytes of an entry's first half, and of an entry. -/
def ebA (e : En) : List UInt8 := vb e.ky.size ++ e.ky.data.toList ++ vb e.sq.toNat ++ [UInt8.ofNat e.kd.toNat]
def ebB (e : En) : List UInt8 := vb e.vl.size ++ e.vl.data.toList
def eb (e : En) : List UInt8 := ebA e ++ ebB e
/-- The bytes of a list of entries, and its text. -/
def encB (n : Nat) (xs : List En) : List UInt8 := vb n ++ xs.flatMap eb
def encT (xs : List En) : ByteArray := if xs.length ≤ 1000 ∧ xs.all entOk = true then ⟨(encB xs.length xs).toArray⟩ else ⟨#[]⟩

theorem dataL (s : ByteArray) : s.data.toList.length = s.size := by rw [Array.length_toList]; rfl
theorem textL (l : List UInt8) : (⟨l.toArray⟩ : ByteArray).data.toList = l := rfl
theorem appL (a b : ByteArray) : (a ++ b).data.toList = a.data.toList ++ b.data.toList := by simp
theorem appS (a b : ByteArray) : (a ++ b).size = a.size + b.size := by simp
theorem vb_len (n : Nat) : (vb n).length ≤ 8 := vbf_length_le 7 n
theorem eb_len {e : En} (h : entOk e = true) : (eb e).length ≤ 5025 := by
  obtain ⟨h1, h2⟩ := (entOk_iff e).1 h
  have a := vb_len e.ky.size
  have b := vb_len e.sq.toNat
  have c := vb_len e.vl.size
  simp only [eb, ebA, ebB, List.length_append, dataL, List.length_singleton]
  omega
theorem encB_snoc (n : Nat) (xs : List En) (e : En) : encB n (xs ++ [e]) = encB n xs ++ ebA e ++ ebB e := by
  simp [encB, eb, List.flatMap_append]
theorem encB_len (n : Nat) (xs : List En) (h : xs.all entOk = true) : (encB n xs).length ≤ 8 + 5025 * xs.length := by
  have a := vb_len n
  have b : (xs.flatMap eb).length ≤ 5025 * xs.length := by
    induction xs with
    | nil => simp
    | cons x r ih =>
      simp only [List.all_cons, Bool.and_eq_true] at h
      have := ih h.2
      have := eb_len h.1
      simp only [List.flatMap_cons, List.length_append, List.length_cons]
      omega
  simp only [encB, List.length_append]
  omega
theorem encT_long (xs : List En) (h : 1000 < xs.length) : encT xs = ⟨#[]⟩ := by unfold encT; rw [if_neg (by omega)]
theorem encT_bad (xs : List En) (k : Nat) (hk : k < xs.length) (h : entOk (xs.getD k en0) = false) : encT xs = ⟨#[]⟩ := by
  unfold encT
  rw [if_neg]
  rintro ⟨-, h2⟩
  have e : xs.getD k en0 = xs[k] := by simp [List.getD, hk]
  rw [e] at h
  have := List.all_eq_true.1 h2 xs[k] (List.getElem_mem hk)
  rw [h] at this
  cases this
theorem encT_ok (xs : List En) (h1 : xs.length ≤ 1000) (h2 : xs.all entOk = true) : encT xs = ⟨(encB xs.length xs).toArray⟩ := by unfold encT; rw [if_pos ⟨h1, h2⟩]

theorem owns_below {w w' : World} {B n size : Nat} {e : TypeId} {v : Value} {xs : List Value} (h : w.ownsRow B e size v n xs) (hb : Below w.heap.size w w') : w'.ownsRow B e size v n xs := by
  obtain ⟨h1, h2⟩ := h
  refine ⟨h1, ?_⟩
  rcases h2 with h2 | ⟨g, cap, cur, rfl, hg, hbk, hrest⟩
  · exact .inl h2
  · have hlt : g < w.heap.size := by
      by_cases hlt : g < w.heap.size
      · exact hlt
      · rw [Array.getElem?_eq_none (by omega)] at hbk; cases hbk
    exact .inr ⟨g, cap, cur, rfl, hg, (hb.block g hlt).trans hbk, hrest⟩

set_option maxRecDepth 100000 in
set_option maxHeartbeats 2000000 in
theorem specEnc_any (a : Option Addr) (cap : Nat) (xs : List En) (w : World) (hx : LieE w a xs) (hf : FitsE xs) (hlen : xs.length ≤ 1048576) :
    Calls Tryd.prog 26 #[.slice a xs.length cap] w fun e w' => e = .returned (.string (encT xs)) ∧ Below w.heap.size w w' := by
  by_cases hlong : 1000 < xs.length
  · rw [encT_long xs hlong]
    have h' : (1000 : Int) < xs.length := by omega
    go_enter Tryd.func26, Tryd.ntmps26
    go_wp2_with fail
    go_ret
    exact ⟨rfl, Below.refl _ _⟩
  · have h' : ¬ (1000 : Int) < xs.length := by omega
    generalize hT : encT xs = T
    have HT : Hid (encT xs = T) := hT
    clear hT
    have HV : Hid ((vtext (xs.length : Int)).data.toList = vb xs.length) := by show _ = _; rw [vtext_in _ (by omega) (by omega)]; simp
    have HVS : Hid ((vtext (xs.length : Int)).size ≤ 8) := vtext_size _
    go_enter Tryd.func26, Tryd.ntmps26
    go_wp2_with fail
    refine (specPut_any _ _).mono ?_
    rintro e w1 ⟨rfl, hb1⟩
    have hb0 : Below w.heap.size w (w.alloc (.cells #[] 5)) := (Below.refl _ _).alloc (Nat.le_refl _) _
    have hbw1 : Below w.heap.size w w1 := hb0.trans (hb1.mono hb0.size)
    have hl1 : w1.ownsRow w.heap.size 5 1 (.slice (some ⟨w.heap.size, 0, none⟩) 0 0) ([] : List UInt8).length (bc []) := owns_below (owns_lit w w.heap.size (Nat.le_refl _)) hb1
    go_wp2_with fail
    refine (l2Put_any w.heap.size _ [] _ w1 hl1 hbw1.size (by have := HVS.out; simp; omega)).mono ?_
    rintro e w2 ⟨v2, rfl, hown2, hb2⟩
    rw [HV.out, List.nil_append] at hown2
    have hbw2 : Below w.heap.size w w2 := hbw1.trans hb2
    clear hl1 hb0 hb1 hb2 hbw1
    go_wp2_with fail
    go_loopw [3, 4] (fun x y wr => ∃ k : Nat, y = .int .i64 k ∧ k ≤ xs.length ∧ (xs.take k).all entOk = true ∧ wr.ownsRow w.heap.size 5 1 x (encB xs.length (xs.take k)).length (bc (encB xs.length (xs.take k))) ∧ Below w.heap.size w wr) (fun _ y _ => xs.length - (intOf y).toNat)
    case atStart => exact ⟨0, rfl, by omega, rfl, by simpa [encB] using hown2, hbw2⟩
    case round =>
      obtain ⟨k, rfl, hk, hall, hown, hb⟩ := hrel
      have hbs := hb.size
      by_cases hlt : k < xs.length
      · obtain ⟨b, off, rfl, hbl, c0, c1, c2, c3⟩ := (hx.below hb).at hlt
        have hbB : b < w.heap.size := by obtain ⟨b', off', e, h, _⟩ := hx.at hlt; cases e; exact h
        have hfk := hf.at hlt
        have hik : (k : Int) < (xs.length : Int) := by omega
        have HB : Hid (entOk (xs.getD k en0) = false → T = ⟨#[]⟩) := fun h => by rw [← HT.out]; exact encT_bad xs k hlt h
        have HS : Hid (encB xs.length (xs.take (k + 1)) = encB xs.length (xs.take k) ++ ebA (xs.getD k en0) ++ ebB (xs.getD k en0)) := by show _ = _; rw [takeE_snoc xs k hlt, encB_snoc]
        have HA : Hid (entOk (xs.getD k en0) = true → (xs.take (k + 1)).all entOk = true) := fun h => by rw [takeE_snoc xs k hlt, List.all_append, hall]; simpa using h
        have hbl2 : (encB xs.length (xs.take k)).length ≤ 5025008 := by have := encB_len xs.length (xs.take k) hall; rw [List.length_take] at this; omega
        generalize xs.getD k en0 = f at *
        generalize encB xs.length (xs.take k) = l at *
        go_wp2_with fail
        refine (l2EntryOk_any f _ hfk.1 hfk.2).mono ?_
        rintro e w3 ⟨rfl, hb3⟩
        have hbw3 : Below w.heap.size w w3 := hb.trans (hb3.mono hbs)
        cases hok : entOk f with
        | false =>
          have hTe := HB.out hok
          go_wp2_with fail
          go_ret
          exact ⟨by rw [hTe]; rfl, hbw3⟩
        | true =>
          obtain ⟨q1, q2⟩ := (entOk_iff f).1 hok
          have hown3 := owns_below hown hb3
          have d0 := (hb3.cell (p := ⟨b, _, none⟩) hbl).trans c0
          have d1 := (hb3.cell (p := ⟨b, _, none⟩) hbl).trans c1
          have d2 := (hb3.cell (p := ⟨b, _, none⟩) hbl).trans c2
          have d3 := (hb3.cell (p := ⟨b, _, none⟩) hbl).trans c3
          have hbl3 : b < w3.heap.size := Nat.lt_of_lt_of_le hbl hb3.size
          have hB3 := hbw3.size
          have hAll := HA.out hok
          have t1s : (vtext (f.ky.size : Int)).size ≤ 8 := vtext_size _
          have t2s : (vtext f.sq).size ≤ 8 := vtext_size _
          have t3s : (⟨#[UInt8.ofNat f.kd.toNat]⟩ : ByteArray).size = 1 := rfl
          have t4s : (vtext (f.vl.size : Int)).size ≤ 8 := vtext_size _
          have HA1 : Hid ((((vtext (f.ky.size : Int) ++ f.ky) ++ vtext f.sq) ++ ⟨#[UInt8.ofNat f.kd.toNat]⟩).data.toList = ebA f) := by
            show _ = _
            rw [appL, appL, appL, vtext_in _ (by omega) (by omega), vtext_in _ (by omega) (by omega)]
            simp [ebA]
          have HA2 : Hid ((vtext (f.vl.size : Int) ++ f.vl).data.toList = ebB f) := by
            show _ = _
            rw [appL, vtext_in _ (by omega) (by omega)]
            simp [ebB]
          have kd0 : 0 ≤ f.kd := by omega
          have hvl : f.vl.size ≤ 4000 := by omega
          have kd1 : f.kd < 256 := by omega
          clear HB HA hb3 c0 c1 c2 c3 hown hx hf hbw2 hown2 q2 hfk
          have HP1 := specPut_any (f.ky.size : Int)
          have HP2 := specPut_any f.sq
          have HP4 := specPut_any (f.vl.size : Int)
          generalize vtext (f.ky.size : Int) = t1 at *
          generalize vtext f.sq = t2 at *
          generalize vtext (f.vl.size : Int) = t4 at *
          go_wp2_with fail
          have g1 : ¬ 9223372036854775807 < t1.size + f.ky.size := by omega
          have g2 : ¬ 9223372036854775807 < t1.size + f.ky.size + t2.size := by omega
          have g3 : ¬ 9223372036854775807 < t1.size + f.ky.size + t2.size + (⟨#[UInt8.ofNat f.kd.toNat]⟩ : ByteArray).size := by omega
          have g5 : ¬ 9223372036854775807 < t1.size + f.ky.size + t2.size + 1 := by omega
          have g4 : ¬ 9223372036854775807 < t4.size + f.vl.size := by omega
          have HZ1 : Hid ((t1 ++ f.ky ++ t2 ++ ⟨#[UInt8.ofNat f.kd.toNat]⟩).size ≤ 1017) := by show _ ≤ _; rw [appS, appS, appS]; omega
          have HZ3 : Hid ((ebA f).length ≤ 1017) := by show _ ≤ _; rw [← HA1.out, dataL]; exact HZ1.out
          have HZ2 : Hid ((t4 ++ f.vl).size ≤ 4008) := by show _ ≤ _; rw [appS]; omega
          replace HP1 : Hid (∀ w, Calls Tryd.prog 24 #[.int .i64 (f.ky.size : Int)] w fun e w' => e = .returned (.string t1) ∧ Below w.heap.size w w') := HP1
          replace HP2 : Hid (∀ w, Calls Tryd.prog 24 #[.int .i64 f.sq] w fun e w' => e = .returned (.string t2) ∧ Below w.heap.size w w') := HP2
          replace HP4 : Hid (∀ w, Calls Tryd.prog 24 #[.int .i64 (f.vl.size : Int)] w fun e w' => e = .returned (.string t4) ∧ Below w.heap.size w w') := HP4
          go_region_held3 (fun w' => w'.cell? ⟨b, off + k * 4, none⟩ = some (.string f.ky) ∧ w'.cell? ⟨b, off + k * 4 + 1, none⟩ = some (.int .i64 f.sq) ∧ w'.cell? ⟨b, off + k * 4 + 2, none⟩ = some (.int .i64 f.kd) ∧ w'.cell? ⟨b, off + k * 4 + 3, none⟩ = some (.string f.vl)) (simp [go_sem, *])
            (first
              | (go_at_call 24; have _t := hb5; refine (HP2.out _).mono ?_; rintro e w6 ⟨rfl, hb6⟩; have m0 := (hb6.cell (p := ⟨b, _, none⟩) hbl5).trans k0; have m1 := (hb6.cell (p := ⟨b, _, none⟩) hbl5).trans k1; have m2 := (hb6.cell (p := ⟨b, _, none⟩) hbl5).trans k2; have m3 := (hb6.cell (p := ⟨b, _, none⟩) hbl5).trans k3; have hbl6 := Nat.lt_of_lt_of_le hbl5 hb6.size; have hown6 : Hid (w6.ownsRow w.heap.size 5 1 _ l.length (bc l)) := owns_below hown5.out hb6; have hbw6 : Hid (Below w.heap.size w w6) := hbw5.out.trans (hb6.mono hbw5.out.size); clear _t hb6)
              | (go_at_call 24; refine (HP1.out _).mono ?_; rintro e w5 ⟨rfl, hb5⟩; have k0 := (hb5.cell (p := ⟨b, _, none⟩) hbl3).trans d0; have k1 := (hb5.cell (p := ⟨b, _, none⟩) hbl3).trans d1; have k2 := (hb5.cell (p := ⟨b, _, none⟩) hbl3).trans d2; have k3 := (hb5.cell (p := ⟨b, _, none⟩) hbl3).trans d3; have hbl5 := Nat.lt_of_lt_of_le hbl3 hb5.size; have hown5 : Hid (w5.ownsRow w.heap.size 5 1 _ l.length (bc l)) := owns_below (w := w3.drew) hown3 hb5; have hbw5 : Hid (Below w.heap.size w w5) := hbw3.drew.trans (hb5.mono hB3))
              | (go_at_call 44; refine (l2Byte_any _ _ kd0 kd1).mono ?_; rintro e w7 ⟨rfl, hb7⟩; have n0 := (hb7.cell (p := ⟨b, _, none⟩) hbl6).trans m0; have n1 := (hb7.cell (p := ⟨b, _, none⟩) hbl6).trans m1; have n2 := (hb7.cell (p := ⟨b, _, none⟩) hbl6).trans m2; have n3 := (hb7.cell (p := ⟨b, _, none⟩) hbl6).trans m3; have hbl7 := Nat.lt_of_lt_of_le hbl6 hb7.size; have hown7 : Hid (w7.ownsRow w.heap.size 5 1 _ l.length (bc l)) := owns_below hown6.out hb7; have hbw7 : Hid (Below w.heap.size w w7) := hbw6.out.trans (hb7.mono hbw6.out.size); clear hb7)
              | (go_at_call 23; refine (l2Put_any w.heap.size _ l _ _ hown7.out hbw7.out.size (by have := HZ1.out; omega)).mono ?_; rintro e w8 ⟨v8, rfl, hown8, hb8⟩; have s0 := (hb8.cell (p := ⟨b, _, none⟩) hbB).trans n0; have s1 := (hb8.cell (p := ⟨b, _, none⟩) hbB).trans n1; have s2 := (hb8.cell (p := ⟨b, _, none⟩) hbB).trans n2; have s3 := (hb8.cell (p := ⟨b, _, none⟩) hbB).trans n3; rw [HA1.out] at hown8; have hbw8 : Below w.heap.size w w8 := hbw7.out.trans hb8; have hbl8 := Nat.lt_of_lt_of_le hbl7 (hb8.size); clear hb8))
          go_wp2_with fail
          go_region_held3 (fun w' => w'.cell? ⟨b, off + k * 4 + 3, none⟩ = some (.string f.vl)) (simp [go_sem, *])
            (first
              | (go_at_call 24; refine (HP4.out _).mono ?_; rintro e w9 ⟨rfl, hb9⟩; have k9 := (hb9.cell (p := ⟨b, _, none⟩) hbl8).trans s3; have hown9 : Hid (w9.ownsRow w.heap.size 5 1 _ (l ++ ebA f).length (bc (l ++ ebA f))) := owns_below (w := w8.drew) hown8 hb9; have hbw9 : Hid (Below w.heap.size w w9) := hbw8.drew.trans (hb9.mono hbw8.size))
              | (go_at_call 23; refine (l2Put_any w.heap.size _ (l ++ ebA f) _ _ hown9.out hbw9.out.size (by have := HZ2.out; have := HZ3.out; rw [List.length_append]; omega)).mono ?_; rintro e w10 ⟨v10, rfl, hown10, hb10⟩; have k10 := (hb10.cell (p := ⟨b, _, none⟩) hbB).trans k9; rw [HA2.out] at hown10; have hbw10 : Below w.heap.size w w10 := hbw9.out.trans hb10; clear hb10))
          all_goals go_wp2_with fail
          all_goals exact ⟨⟨k + 1, by simp, by omega, hAll, by rw [HS.out]; exact hown10, hbw10⟩, by simp only [intOf]; omega⟩
      · obtain rfl : k = xs.length := by omega
        rw [List.take_length] at hall hown
        have hTe := HT.out
        rw [encT_ok xs (by omega) hall] at hTe
        have hcv := conv_row hown (by intro h0; have := vbf_pos 7 xs.length; have e := congrArg List.length h0; simp [encB] at e; simp [e.1] at this)
        rw [hTe] at hcv
        clear hTe
        go_wp2_with fail
        go_ret
        exact ⟨rfl, hb⟩
end Go.Proofs.YtibfoimapnnnkacDoor
