import Derived.Test.YtogcpllpkdeehaaGreatDoorShelf

import Derived.Shelf.Strings.Repeat
namespace Go.Proofs.YtogcpllpkdeehaaGreatDoor
open Go.RowKit Go.Maps
set_option linter.unusedVariables false
set_option linter.unusedSimpArgs false

/-- The text of a value. -/
def strOfV : Value → ByteArray
  | .string s => s
  | _ => ⟨#[]⟩

theorem repeat_zero (z : Nat) : Lib.repeatL [0] z = List.replicate z (0 : UInt8) := by
  induction z with
  | zero => rfl
  | succ z ih => simp [Lib.repeatL, List.replicate_succ] at *; try exact ih

theorem ext_take (c : ByteArray) (m : Nat) : (c.extract 0 m).data.toList = c.data.toList.take m := by
  simp [ByteArray.data_extract]
theorem ext_drop (c : ByteArray) (m : Nat) : (c.extract m c.size).data.toList = c.data.toList.drop m := by
  simp only [ByteArray.data_extract, Array.toList_extract, List.extract]
  rw [List.take_of_length_le]
  rw [List.length_drop, len_data]
  exact Nat.le_refl _

theorem at_below {T : TypeId} {B b : Nat} {p : Value} {bs : List Value} {w w' : World} (h : Lib.BuilderAtF T 5 B b p bs w) (hb : Below w.heap.size w w') : Lib.BuilderAtF T 5 B b p bs w' := by
  obtain ⟨hB, v, hbk, ⟨h1, h2⟩, hne⟩ := h
  have lt : ∀ {g : Nat} {o : Obj}, w.heap[g]? = some o → g < w.heap.size := fun {g o} h => by
    by_cases hlt : g < w.heap.size
    · exact hlt
    · rw [Array.getElem?_eq_none (by omega)] at h; cases h
  refine ⟨hB, v, (hb.block b (lt hbk)).trans hbk, ⟨h1, ?_⟩, hne⟩
  rcases h2 with h2 | ⟨g, cap, cur, fz, rfl, hg, hgk, hrest⟩
  · exact .inl h2
  · exact .inr ⟨g, cap, cur, fz, rfl, hg, (hb.block g (lt hgk)).trans hgk, hrest⟩
theorem Bld.below {B b : Nat} {l : List UInt8} {w w' : World} (h : Bld B b l w) (hb : Below w.heap.size w w') : Bld B b l w' :=
  h.elim (fun x => .inl (at_below x hb)) (fun x => .inr (at_below x hb))

set_option maxRecDepth 100000 in
set_option maxHeartbeats 2000000 in
theorem implFrame_in (k : Nat) (p : ByteArray) (w : World) (hk : kindOk k = true) (hp : p.size ≤ 1048576) (ht : Steps w) :
    Calls Tryz.prog 23 #[.int .i64 k, .string p] w fun e w' => e = .returned (.string ⟨(frB k p.data.toList).toArray⟩) ∧ Below w.heap.size w w' := by
  have hk' : k < 256 := by have := kindOk_cases hk; omega
  have hpl : p.data.toList.length = p.size := len_data p
  have HCL := crc_lt (UInt8.ofNat k :: p.data.toList)
  have HBT : Hid (((⟨(four p.size).toArray⟩ : ByteArray) ++ ⟨(four (crc (UInt8.ofNat k :: p.data.toList))).toArray⟩) ++ p = ⟨(body k p.data.toList).toArray⟩) := by show _ = _; rw [body_text, ← hpl]; rfl
  have hf4 : ∀ n, (⟨(four n).toArray⟩ : ByteArray).size = 4 := fun n => rfl
  have hp' : (p.size : Int) ≤ 1048576 := by omega
  have HB : Hid (frB k p.data.toList = fby k (body k p.data.toList) (63 * pagesN (body k p.data.toList).length)) := rfl
  have HBL : Hid ((body k p.data.toList).length = 8 + p.size) := by show _ = _; rw [body_len, hpl]
  generalize frB k p.data.toList = T at *
  generalize hbd : body k p.data.toList = bd at *
  clear hbd hpl
  have hpg : pagesN (8 + p.size) ≤ 20000 := by unfold pagesN; omega
  go_enter Tryz.func23, Tryz.ntmps23
  go_wp2_with fail
  refine (isKind_any _ _).mono ?_
  rintro e w0 ⟨rfl, hw0⟩
  have hw1 := hw0.symm
  subst hw1
  rw [hk]
  go_wp2_with fail
  refine (pages_any p.size _ (by omega)).mono ?_
  rintro e w0 ⟨rfl, hw0⟩
  have hw1 := hw0.symm
  subst hw1
  generalize hPG : pagesN (8 + p.size) = PG at *
  go_wp2_with fail
  refine (putWord_any p.size _ (by omega)).mono ?_
  rintro e w1 ⟨rfl, hb1⟩
  go_wp2_with fail
  refine (frameCrc_any k p _ hk' hp (ht.below hb1)).mono ?_
  rintro e w2 ⟨rfl, hb2⟩
  have hbw2 := hb1.trans (hb2.mono hb1.size)
  go_wp2_with fail
  refine (putWord_any (crc (UInt8.ofNat k :: p.data.toList)) _ HCL).mono ?_
  rintro e w4 ⟨rfl, hb4⟩
  have hbw4 := hbw2.trans (hb4.mono hbw2.size)
  have hB4 := hbw4.size
  clear hb1 hb2 hb4 hbw2
  generalize hfa : (⟨(four p.size).toArray⟩ : ByteArray) = fa at *
  generalize hfb : (⟨(four (crc (UInt8.ofNat k :: p.data.toList))).toArray⟩ : ByteArray) = fb at *
  have sa : fa.size = 4 := by rw [← hfa]; rfl
  have sb : fb.size = 4 := by rw [← hfb]; rfl
  clear hfa hfb hf4
  have g2 : ¬ 9223372036854775807 < fa.size + fb.size := by omega
  have g3 : ¬ 9223372036854775807 < fa.size + fb.size + p.size := by omega
  have hBk : (w4.alloc (.cells #[.pointer none, .slice none 0 0] 44)).heap[w4.heap.size]? = some (.cells #[.pointer none, .slice none 0 0] 44 (0, 0)) := World.heap_alloc_new _ _
  go_wp2_with fail
  have hGW := Tryz.Builder_Grow_fresh w4.heap.size w4.heap.size (PG * 64) _ (Nat.le_refl _) hBk (by simp) (by omega)
  have eG : ((PG * 64 : Nat) : Int) = (PG : Int) * 64 := by simp
  rw [eG] at hGW
  refine hGW.mono ?_
  rintro e w5 ⟨rfl, hA5, hb5⟩
  have hBd5 : Bld w4.heap.size w4.heap.size [] w5 := Lib.IsBuilderF.of (.inr hA5)
  have hb45 : Below w4.heap.size w4 w5 := ((Below.refl _ _).alloc (Nat.le_refl _) _).trans hb5
  clear hA5 hb5 hGW hBk eG
  generalize hbt : fa ++ fb ++ p = bt at *
  have htl : bt.data.toList = bd := by rw [HBT.out]
  have hBL := HBL.out
  have hPG2 : pagesN bd.length = PG := by rw [hBL, hPG]
  have hN : bd.length ≤ 63 * PG := by rw [← hPG2]; exact pages_ge _
  have hN2 : 63 * PG ≤ bd.length + 62 := by rw [← hPG2]; unfold pagesN; omega
  rw [hPG2] at HB
  clear hbt HBT HCL g2 g3 hBL
  have HL : Hid (∀ i, i ≤ bd.length → (fby k bd i).length ≤ 3000000) := fun i hi' => by rw [fby_len]; unfold pagesN at *; omega
  go_wp2_with fail
  go_loopw [6, 8] (fun c f wr => ∃ (ct : ByteArray) (j n : Nat), c = .string ct ∧ f = .int .u8 (n : Int) ∧ n < 256 ∧ hdr k (63 * j) = [UInt8.ofNat n] ∧ ct.data.toList = bd.drop (63 * j) ∧ Bld w4.heap.size w4.heap.size (fby k bd (min (63 * j) bd.length)) wr ∧ Below w4.heap.size w4 wr) (fun c _ _ => (strOfV c).size)
  case atStart => exact ⟨bt, 0, k, rfl, rfl, hk', rfl, by rw [htl]; rfl, hBd5, hb45⟩
  case round =>
    obtain ⟨ct, j, n, rfl, rfl, hn, hh, hct, hB, hb⟩ := hrel
    have hbs := hb.size
    have HCL2 : Hid (ct.size = bd.length - 63 * j) := by show _ = _; rw [← len_data, hct, List.length_drop]
    have hj : 63 * j < bd.length ∨ ct.size = 0 := by have := HCL2.out; omega
    have hct63 : ct.size ≤ 1048584 := by have := HCL2.out; have := HBL.out; omega
    by_cases h0 : ct.size = 0
    · have he : ct.toList = [] := by rw [ByteArray.toList_eq]; exact List.length_eq_zero_iff.1 (by rw [len_data]; exact h0)
      have hmin : min (63 * j) bd.length = bd.length := by have := HCL2.out; omega
      rw [hmin] at hB
      have hlf : (bc (fby k bd bd.length)).length = bd.length + PG := by rw [List.length_map, fby_len, hPG2]
      have HZ : Hid (fby k bd (63 * PG) = fby k bd bd.length ++ List.replicate (63 * PG - bd.length) 0) := by
        show _ = _
        have := fby_pad k bd (63 * PG - bd.length) (by have := HBL.out; omega) (by rw [hPG2]; omega)
        rw [← this]
        congr 1
        omega
      have hLF := HL.out bd.length (Nat.le_refl _)
      go_wp2_with fail
      refine (Tryz.Builder_Len_f _ _ _ _ hB).mono ?_
      rintro e w6 ⟨rfl, hw6⟩
      have hw7 := hw6.symm
      subst hw7
      rw [hlf]
      have hzz : (PG : Int) * 64 - ((bd.length + PG : Nat) : Int) = ((63 * PG - bd.length : Nat) : Int) := by omega
      have hzz2 : (PG : Int) * 64 - ((bd.length : Int) + PG) = ((63 * PG - bd.length : Nat) : Int) := by omega
      go_wp2_with fail
      refine (Tryz.strings_Repeat _ (63 * PG - bd.length) _ (by omega) (by show 1 * _ ≤ _; omega)).mono ?_
      rintro e w7 ⟨rfl, hb7⟩
      have hB7 := hB.below hb7
      have hbw7 := hb.trans (hb7.mono hbs)
      have HR : Hid (Lib.repeatL (⟨#[0]⟩ : ByteArray).data.toList (63 * PG - bd.length) = List.replicate (63 * PG - bd.length) 0) := repeat_zero _
      generalize hrt : (⟨(Lib.repeatL (⟨#[0]⟩ : ByteArray).data.toList (63 * PG - bd.length)).toArray⟩ : ByteArray) = rt at *
      have hrl : rt.data.toList = List.replicate (63 * PG - bd.length) 0 := by rw [← hrt, HR.out]
      have hrs : rt.size ≤ 62 := by rw [← len_data, hrl, List.length_replicate]; omega
      clear hrt HR
      go_wp2_with fail
      refine (writeString_any _ _ _ _ w7 hB7 (by omega) hbw7.size).mono ?_
      rintro e w8 ⟨rfl, hB8, hb8, -⟩
      have hbw8 := hbw7.trans hb8
      rw [hrl, ← HZ.out, ← HB.out] at hB8
      go_wp2_with fail
      refine (Tryz.Builder_String_any_k _ _ T _ hB8 hbw8.size).mono ?_
      rintro e w9 ⟨rfl, -, hb9, -⟩
      go_wp2_with fail
      go_ret
      exact ⟨rfl, hbw4.trans ((hbw8.trans hb9).mono hB4)⟩
    · have hne : (!ct.toList.isEmpty) = true := by
        rw [ByteArray.toList_eq]
        have : ct.data.toList ≠ [] := by intro h; exact h0 (by rw [← len_data, h]; rfl)
        cases hl : ct.data.toList with
        | nil => exact absurd hl this
        | cons x r => rfl
      have hn' : (n : Int) < 256 := by omega
      have hm63 : 0 ≤ min 63 (ct.size : Int) ∧ min 63 (ct.size : Int) ≤ ct.size := by omega
      obtain ⟨m, hm⟩ : ∃ m : Nat, m = min 63 ct.size := ⟨_, rfl⟩
      have hme : (min 63 (ct.size : Int)).toNat = m := by omega
      have hps : (ct.extract 0 m).size = m := by rw [ByteArray.size_extract]; omega
      have hms : (m : Int) ≤ ct.size := by omega
      have HM : Hid (m = min 63 ct.size) := hm
      clear hm
      go_wp2_with fail
      refine (writeByte_any _ _ _ n wr hB hn (by have := HL.out (min (63 * j) bd.length) (by omega); omega) hbs).mono ?_
      rintro e w6 ⟨rfl, hB6, hb6, -⟩
      have hbw6 := hb.trans hb6
      go_wp2_with fail
      refine (writeString_any _ _ _ _ w6 hB6 (by have := HL.out (min (63 * j) bd.length) (by omega); rw [hps, List.length_append, List.length_singleton]; omega) hbw6.size).mono ?_
      rintro e w7 ⟨rfl, hB7, hb7, -⟩
      have hbw7 := hbw6.trans hb7
      go_wp2_with fail
      have hM := HM.out
      have hC := HCL2.out
      have hjl : 63 * j < bd.length := by omega
      refine ⟨⟨ct.extract m ct.size, j + 1, 99, rfl, rfl, by omega, ?_, ?_, ?_, hbw7⟩, ?_⟩
      · unfold hdr; rw [if_neg (by omega), if_pos (by omega)]; rfl
      · rw [ext_drop, hct, List.drop_drop]
        rcases Nat.lt_or_ge ct.size 63 with h | h
        · rw [List.drop_eq_nil_of_le (by omega), List.drop_eq_nil_of_le (by omega)]
        · congr 1; omega
      · have e1 : min (63 * j) bd.length = 63 * j := by omega
        have e2 : min (63 * (j + 1)) bd.length = 63 * j + m := by omega
        rw [e1, ext_take, hct] at hB7
        rw [e2, fby_page k bd j m (by omega) (by omega) (by omega), hh]
        exact hB7
      · show (ct.extract m ct.size).size < ct.size
        rw [ByteArray.size_extract]
        omega

set_option maxRecDepth 100000 in
set_option maxHeartbeats 1000000 in
theorem implFrame_any (k : Int) (p : ByteArray) (w : World) (hp : p.size ≤ maxLen) (ht : Steps w) :
    Calls Tryz.prog 23 #[.int .i64 k, .string p] w fun e w' => e = .returned (.string (frT k p)) ∧ Below w.heap.size w w' := by
  by_cases h : kindOk k = true ∧ p.size ≤ 1048576
  · obtain ⟨n, rfl⟩ : ∃ n : Nat, k = n := ⟨k.toNat, by have := kindOk_cases h.1; omega⟩
    rw [frT_in h.1 h.2]
    exact implFrame_in n p w h.1 h.2 ht
  · rw [frT_out h]
    unfold maxLen at hp
    cases hk : kindOk k with
    | false =>
      go_enter Tryz.func23, Tryz.ntmps23
      go_wp2_with fail
      refine (isKind_any _ _).mono ?_
      rintro e w0 ⟨rfl, hw0⟩
      have hw1 := hw0.symm
      subst hw1
      rw [hk]
      go_wp2_with fail
      go_ret
      exact ⟨rfl, Below.refl _ _⟩
    | true =>
      have h2 : (1048576 : Int) < p.size := by rcases Nat.lt_or_ge 1048576 p.size with h' | h'
                                               · omega
                                               · exact absurd ⟨hk, h'⟩ h
      go_enter Tryz.func23, Tryz.ntmps23
      go_wp2_with fail
      refine (isKind_any _ _).mono ?_
      rintro e w0 ⟨rfl, hw0⟩
      have hw1 := hw0.symm
      subst hw1
      rw [hk]
      go_wp2_with fail
      go_ret
      exact ⟨rfl, Below.refl _ _⟩

set_option maxRecDepth 100000 in
set_option maxHeartbeats 1000000 in
theorem specFrame_any (k : Int) (p : ByteArray) (w : World) (hp : p.size ≤ maxLen) :
    Calls Tryz.prog 30 #[.int .i64 k, .string p] w fun e w' => e = .returned (.string (frT k p)) ∧ Below w.heap.size w w' := by
  by_cases h : kindOk k = true ∧ p.size ≤ 1048576
  · obtain ⟨n, rfl⟩ : ∃ n : Nat, k = n := ⟨k.toNat, by have := kindOk_cases h.1; omega⟩
    rw [frT_in h.1 h.2]
    exact specFrame_in n p w h.1 h.2
  · rw [frT_out h]
    unfold maxLen at hp
    cases hk : kindOk k with
    | false =>
      go_enter Tryz.func30, Tryz.ntmps30
      go_wp2_with fail
      refine (l2KindOk_any _ _).mono ?_
      rintro e w0 ⟨rfl, hw0⟩
      have hw1 := hw0.symm
      subst hw1
      rw [hk]
      go_wp2_with fail
      go_ret
      exact ⟨rfl, Below.refl _ _⟩
    | true =>
      have h2 : (1048576 : Int) < p.size := by rcases Nat.lt_or_ge 1048576 p.size with h' | h'
                                               · omega
                                               · exact absurd ⟨hk, h'⟩ h
      go_enter Tryz.func30, Tryz.ntmps30
      go_wp2_with fail
      refine (l2KindOk_any _ _).mono ?_
      rintro e w0 ⟨rfl, hw0⟩
      have hw1 := hw0.symm
      subst hw1
      rw [hk]
      go_wp2_with fail
      go_ret
      exact ⟨rfl, Below.refl _ _⟩
end Go.Proofs.YtogcpllpkdeehaaGreatDoor
