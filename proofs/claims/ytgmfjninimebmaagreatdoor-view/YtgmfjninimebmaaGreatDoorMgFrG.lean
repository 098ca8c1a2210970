import Derived.Test.YtgmfjninimebmaaGreatDoorShelf
import Derived.Shelf.Strings.Repeat
import Derived.Test.YtgmfjninimebmaaGreatDoorRows
import Derived.WalkKit
import Derived.WalkSpells
import Derived.WalkLawsBesides
import Derived.Deep.QuietTactic
import Derived.BigQuiet
import Derived.Deep.RegionHeld3
import Derived.Below
namespace Go.Proofs.YtgmfjninimebmaaGreatDoor
open Go.RowKit Go.Maps
set_option linter.unusedVariables false
set_option linter.unusedSimpArgs false

/-- The text of a value. -/
def strOfV : Value → ByteArray
  | .string s => s
  | _ => ⟨#[]⟩

theorem repeat_zero (z : Nat) : Lib.repeatL [0] z = List.replicate z (0 : UInt8) := by
  induction z with
  | zero => rfl
  | succ z ih => simp [Lib.repeatL, List.replicate_succ] at *; try exact ih

theorem ext_take (c : ByteArray) (m : Nat) : (c.extract 0 m).data.toList = c.data.toList.take m := by
  simp [ByteArray.data_extract]
theorem ext_drop (c : ByteArray) (m : Nat) : (c.extract m c.size).data.toList = c.data.toList.drop m := by
  simp only [ByteArray.data_extract, Array.toList_extract, List.extract]
  rw [List.take_of_length_le]
  rw [List.length_drop, len_data]
  exact Nat.le_refl _

theorem at_below {T : TypeId} {B b : Nat} {p : Value} {bs : List Value} {w w' : World} (h : Lib.BuilderAtF T 5 B b p bs w) (hb : Below w.heap.size w w') : Lib.BuilderAtF T 5 B b p bs w' := by
  obtain ⟨hB, v, hbk, ⟨h1, h2⟩, hne⟩ := h
  have lt : ∀ {g : Nat} {o : Obj}, w.heap[g]? = some o → g < w.heap.size := fun {g o} h => by
    by_cases hlt : g < w.heap.size
    · exact hlt
    · rw [Array.getElem?_eq_none (by omega)] at h; cases h
  refine ⟨hB, v, (hb.block b (lt hbk)).trans hbk, ⟨h1, ?_⟩, hne⟩
  rcases h2 with h2 | ⟨g, cap, cur, fz, rfl, hg, hgk, hrest⟩
  · exact .inl h2
  · exact .inr ⟨g, cap, cur, fz, rfl, hg, (hb.block g (lt hgk)).trans hgk, hrest⟩
theorem Bld.below {B b : Nat} {l : List UInt8} {w w' : World} (h : Bld B b l w) (hb : Below w.heap.size w w') : Bld B b l w' :=
  h.elim (fun x => .inl (at_below x hb)) (fun x => .inr (at_below x hb))

set_option maxRecDepth 100000 in
set_option maxHeartbeats 2000000 in
theorem implFrame_in (k : Nat) (p : ByteArray) (w : World) (hk : kindOk k = true) (hp : p.size ≤ 1048576) (ht : Steps w) :
    Calls Tryz.prog 75 #[.int .i64 k, .string p] w fun e w' => e = .returned (.string ⟨(frB k p.data.toList).toArray⟩) ∧ Below w.heap.size w w' := by
  have hk' : k < 256 := by have := kindOk_cases hk; omega
  have hpl : p.data.toList.length = p.size := len_data p
  have HCL := crc_lt (UInt8.ofNat k :: p.data.toList)
  have HBT : Hid (((⟨(four p.size).toArray⟩ : ByteArray) ++ ⟨(four (crc (UInt8.ofNat k :: p.data.toList))).toArray⟩) ++ p = ⟨(body k p.data.toList).toArray⟩) := by show _ = _; rw [body_text, ← hpl]; rfl
  have hf4 : ∀ n, (⟨(four n).toArray⟩ : ByteArray).size = 4 := fun n => rfl
  have hp' : (p.size : Int) ≤ 1048576 := by omega
  have HB : Hid (frB k p.data.toList = fby k (body k p.data.toList) (63 * pagesN (body k p.data.toList).length)) := rfl
  have HBL : Hid ((body k p.data.toList).length = 8 + p.size) := by show _ = _; rw [body_len, hpl]
  generalize frB k p.data.toList = T at *
  generalize hbd : body k p.data.toList = bd at *
  clear hbd hpl
  have hpg : pagesN (8 + p.size) ≤ 20000 := by unfold pagesN; omega
  go_enter Tryz.func75, Tryz.ntmps75
  go_wp2_with fail
  refine (isKind_any _ _).mono ?_
  rintro e w0 ⟨rfl, hw0⟩
  have hw1 := hw0.symm
  subst hw1
  rw [hk]
  go_wp2_with fail
  refine (pages_any p.size _ (by omega)).mono ?_
  rintro e w0 ⟨rfl, hw0⟩
  have hw1 := hw0.symm
  subst hw1
  generalize hPG : pagesN (8 + p.size) = PG at *
  go_wp2_with fail
  refine (putWord_any p.size _ (by omega)).mono ?_
  rintro e w1 ⟨rfl, hb1⟩
  go_wp2_with fail
  refine (frameCrc_any k p _ hk' hp (ht.below hb1)).mono ?_
  rintro e w2 ⟨rfl, hb2⟩
  have hbw2 := hb1.trans (hb2.mono hb1.size)
  go_wp2_with fail
  refine (putWord_any (crc (UInt8.ofNat k :: p.data.toList)) _ HCL).mono ?_
  rintro e w4 ⟨rfl, hb4⟩
  have hbw4 := hbw2.trans (hb4.mono hbw2.size)
  have hB4 := hbw4.size
  clear hb1 hb2 hb4 hbw2
  generalize hfa : (⟨(four p.size).toArray⟩ : ByteArray) = fa at *
  generalize hfb : (⟨(four (crc (UInt8.ofNat k :: p.data.toList))).toArray⟩ : ByteArray) = fb at *
  have sa : fa.size = 4 := by rw [← hfa]; rfl
  have sb : fb.size = 4 := by rw [← hfb]; rfl
  clear hfa hfb hf4
  have g2 : ¬ 9223372036854775807 < fa.size + fb.size := by omega
  have g3 : ¬ 9223372036854775807 < fa.size + fb.size + p.size := by omega
  have hBk : (w4.alloc (.cells #[.pointer none, .slice none 0 0] 150)).heap[w4.heap.size]? = some (.cells #[.pointer none, .slice none 0 0] 150 (0, 0)) := World.heap_alloc_new _ _
  go_wp2_with fail
  have hGW := Tryz.Builder_Grow_fresh w4.heap.size w4.heap.size (PG * 64) _ (Nat.le_refl _) hBk (by simp) (by omega)
  have eG : ((PG * 64 : Nat) : Int) = (PG : Int) * 64 := by simp
  rw [eG] at hGW
  refine hGW.mono ?_
  rintro e w5 ⟨rfl, hA5, hb5⟩
  have hBd5 : Bld w4.heap.size w4.heap.size [] w5 := Lib.IsBuilderF.of (.inr hA5)
  have hb45 : Below w4.heap.size w4 w5 := ((Below.refl _ _).alloc (Nat.le_refl _) _).trans hb5
  clear hA5 hb5 hGW hBk eG
  generalize hbt : fa ++ fb ++ p = bt at *
  have htl : bt.data.toList = bd := by rw [HBT.out]
  have hBL := HBL.out
  have hPG2 : pagesN bd.length = PG := by rw [hBL, hPG]
  have hN : bd.length ≤ 63 * PG := by rw [← hPG2]; exact pages_ge _
  have hN2 : 63 * PG ≤ bd.length + 62 := by rw [← hPG2]; unfold pagesN; omega
  rw [hPG2] at HB
  clear hbt HBT HCL g2 g3 hBL
  have HL : Hid (∀ i, i ≤ bd.length → (fby k bd i).length ≤ 3000000) := fun i hi' => by rw [fby_len]; unfold pagesN at *; omega
  go_wp2_with fail
  go_loopw [6, 8] (fun c f wr => ∃ (ct : ByteArray) (j n : Nat), c = .string ct ∧ f = .int .u8 (n : Int) ∧ n < 256 ∧ hdr k (63 * j) = [UInt8.ofNat n] ∧ ct.data.toList = bd.drop (63 * j) ∧ Bld w4.heap.size w4.heap.size (fby k bd (min (63 * j) bd.length)) wr ∧ Below w4.heap.size w4 wr) (fun c _ _ => (strOfV c).size)
  case atStart => exact ⟨bt, 0, k, rfl, rfl, hk', rfl, by rw [htl]; rfl, hBd5, hb45⟩
  case round =>
    obtain ⟨ct, j, n, rfl, rfl, hn, hh, hct, hB, hb⟩ := hrel
    have hbs := hb.size
    have HCL2 : Hid (ct.size = bd.length - 63 * j) := by show _ = _; rw [← len_data, hct, List.length_drop]
    have hj : 63 * j < bd.length ∨ ct.size = 0 := by have := HCL2.out; omega
    have hct63 : ct.size ≤ 1048584 := by have := HCL2.out; have := HBL.out; omega
    by_cases h0 : ct.size = 0
    · have he : ct.toList = [] := by rw [ByteArray.toList_eq]; exact List.length_eq_zero_iff.1 (by rw [len_data]; exact h0)
      have hmin : min (63 * j) bd.length = bd.length := by have := HCL2.out; omega
      rw [hmin] at hB
      have hlf : (bc (fby k bd bd.length)).length = bd.length + PG := by rw [List.length_map, fby_len, hPG2]
      have HZ : Hid (fby k bd (63 * PG) = fby k bd bd.length ++ List.replicate (63 * PG - bd.length) 0) := by
        show _ = _
        have := fby_pad k bd (63 * PG - bd.length) (by have := HBL.out; omega) (by rw [hPG2]; omega)
        rw [← this]
        congr 1
        omega
      have hLF := HL.out bd.length (Nat.le_refl _)
      go_wp2_with fail
      refine (Tryz.Builder_Len_f _ _ _ _ hB).mono ?_
      rintro e w6 ⟨rfl, hw6⟩
      have hw7 := hw6.symm
      subst hw7
      rw [hlf]
      have hzz : (PG : Int) * 64 - ((bd.length + PG : Nat) : Int) = ((63 * PG - bd.length : Nat) : Int) := by omega
      have hzz2 : (PG : Int) * 64 - ((bd.length : Int) + PG) = ((63 * PG - bd.length : Nat) : Int) := by omega
      go_wp2_with fail
      refine (Tryz.strings_Repeat _ (63 * PG - bd.length) _ (by omega) (by show 1 * _ ≤ _; omega)).mono ?_
      rintro e w7 ⟨rfl, hb7⟩
      have hB7 := hB.below hb7
      have hbw7 := hb.trans (hb7.mono hbs)
      have HR : Hid (Lib.repeatL (⟨#[0]⟩ : ByteArray).data.toList (63 * PG - bd.length) = List.replicate (63 * PG - bd.length) 0) := repeat_zero _
      generalize hrt : (⟨(Lib.repeatL (⟨#[0]⟩ : ByteArray).data.toList (63 * PG - bd.length)).toArray⟩ : ByteArray) = rt at *
      have hrl : rt.data.toList = List.replicate (63 * PG - bd.length) 0 := by rw [← hrt, HR.out]
      have hrs : rt.size ≤ 62 := by rw [← len_data, hrl, List.length_replicate]; omega
      clear hrt HR
      go_wp2_with fail
      refine (writeString_any _ _ _ _ w7 hB7 (by omega) hbw7.size).mono ?_
      rintro e w8 ⟨rfl, hB8, hb8, -⟩
      have hbw8 := hbw7.trans hb8
      rw [hrl, ← HZ.out, ← HB.out] at hB8
      go_wp2_with fail
      refine (Tryz.Builder_String_any_k _ _ T _ hB8 hbw8.size).mono ?_
      rintro e w9 ⟨rfl, -, hb9, -⟩
      go_wp2_with fail
      go_ret
      exact ⟨rfl, hbw4.trans ((hbw8.trans hb9).mono hB4)⟩
    · have hne : (!ct.toList.isEmpty) = true := by
        rw [ByteArray.toList_eq]
        have : ct.data.toList ≠ [] := by intro h; exact h0 (by rw [← len_data, h]; rfl)
        cases hl : ct.data.toList with
        | nil => exact absurd hl this
        | cons x r => rfl
      have hn' : (n : Int) < 256 := by omega
      have hm63 : 0 ≤ min 63 (ct.size : Int) ∧ min 63 (ct.size : Int) ≤ ct.size := by omega
      obtain ⟨m, hm⟩ : ∃ m : Nat, m = min 63 ct.size := ⟨_, rfl⟩
      have hme : (min 63 (ct.size : Int)).toNat = m := by omega
      have hps : (ct.extract 0 m).size = m := by rw [ByteArray.size_extract]; omega
      have hms : (m : Int) ≤ ct.size := by omega
      have HM : Hid (m = min 63 ct.size) := hm
      clear hm
      go_wp2_with fail
      refine (writeByte_any _ _ _ n wr hB hn (by have := HL.out (min (63 * j) bd.length) (by omega); omega) hbs).mono ?_
      rintro e w6 ⟨rfl, hB6, hb6, -⟩
      have hbw6 := hb.trans hb6
      go_wp2_with fail
      refine (writeString_any _ _ _ _ w6 hB6 (by have := HL.out (min (63 * j) bd.length) (by omega); rw [hps, List.length_append, List.length_singleton]; omega) hbw6.size).mono ?_
      rintro e w7 ⟨rfl, hB7, hb7, -⟩
      have hbw7 := hbw6.trans hb7
      go_wp2_with fail
      have hM := HM.out
      have hC := HCL2.out
      have hjl : 63 * j < bd.length := by omega
      refine ⟨⟨ct.extract m ct.size, j + 1, 99, rfl, rfl, by omega, ?_, ?_, ?_, hbw7⟩, ?_⟩
      · unfold hdr; rw [if_neg (by omega), if_pos (by omega)]; rfl
      · rw [ext_drop, hct, List.drop_drop]
        rcases Nat.lt_or_ge ct.size 63 with h | h
        · rw [List.drop_eq_nil_of_le (by omega), List.drop_eq_nil_of_le (by omega)]
        · congr 1; omega
      · have e1 : min (63 * j) bd.length = 63 * j := by omega
        have e2 : min (63 * (j + 1)) bd.length = 63 * j + m := by omega
        rw [e1, ext_take, hct] at hB7
        rw [e2, fby_page k bd j m (by omega) (by omega) (by omega), hh]
        exact hB7
      · show (ct.extract m ct.size).size < ct.size
        rw [ByteArray.size_extract]
        omega

set_option maxRecDepth 100000 in
set_option maxHeartbeats 1000000 in
theorem implFrame_any (k : Int) (p : ByteArray) (w : World) (hp : p.size ≤ maxLen) (ht : Steps w) :
    Calls Tryz.prog 75 #[.int .i64 k, .string p] w fun e w' => e = .returned (.string (frT k p)) ∧ Below w.heap.size w w' := by
  by_cases h : kindOk k = true ∧ p.size ≤ 1048576
  · obtain ⟨n, rfl⟩ : ∃ n : Nat, k = n := ⟨k.toNat, by have := kindOk_cases h.1; omega⟩
    rw [frT_in h.1 h.2]
    exact implFrame_in n p w h.1 h.2 ht
  · rw [frT_out h]
    unfold maxLen at hp
    cases hk : kindOk k with
    | false =>
      go_enter Tryz.func75, Tryz.ntmps75
      go_wp2_with fail
      refine (isKind_any _ _).mono ?_
      rintro e w0 ⟨rfl, hw0⟩
      have hw1 := hw0.symm
      subst hw1
      rw [hk]
      go_wp2_with fail
      go_ret
      exact ⟨rfl, Below.refl _ _⟩
    | true =>
      have h2 : (1048576 : Int) < p.size := by rcases Nat.lt_or_ge 1048576 p.size with h' | h'
                                               · omega
                                               · exact absurd ⟨hk, h'⟩ h
      go_enter Tryz.func75, Tryz.ntmps75
      go_wp2_with fail
      refine (isKind_any _ _).mono ?_
      rintro e w0 ⟨rfl, hw0⟩
      have hw1 := hw0.symm
      subst hw1
      rw [hk]
      go_wp2_with fail
      go_ret
      exact ⟨rfl, Below.refl _ _⟩

set_option maxRecDepth 100000 in
set_option maxHeartbeats 1000000 in
theorem specFrame_any (k : Int) (p : ByteArray) (w : World) (hp : p.size ≤ maxLen) :
    Calls Tryz.prog 63 #[.int .i64 k, .string p] w fun e w' => e = .returned (.string (frT k p)) ∧ Below w.heap.size w w' := by
  by_cases h : kindOk k = true ∧ p.size ≤ 1048576
  · obtain ⟨n, rfl⟩ : ∃ n : Nat, k = n := ⟨k.toNat, by have := kindOk_cases h.1; omega⟩
    rw [frT_in h.1 h.2]
    exact specFrame_in n p w h.1 h.2
  · rw [frT_out h]
    unfold maxLen at hp
    cases hk : kindOk k with
    | false =>
      go_enter Tryz.func63, Tryz.ntmps63
      go_wp2_with fail
      refine (l2KindOk_any _ _).mono ?_
      rintro e w0 ⟨rfl, hw0⟩
      have hw1 := hw0.symm
      subst hw1
      rw [hk]
      go_wp2_with fail
      go_ret
      exact ⟨rfl, Below.refl _ _⟩
    | true =>
      have h2 : (1048576 : Int) < p.size := by rcases Nat.lt_or_ge 1048576 p.size with h' | h'
                                               · omega
                                               · exact absurd ⟨hk, h'⟩ h
      go_enter Tryz.func63, Tryz.ntmps63
      go_wp2_with fail
      refine (l2KindOk_any _ _).mono ?_
      rintro e w0 ⟨rfl, hw0⟩
      have hw1 := hw0.symm
      subst hw1
      rw [hk]
      go_wp2_with fail
      go_ret
      exact ⟨rfl, Below.refl _ _⟩
end Go.Proofs.YtgmfjninimebmaaGreatDoor
namespace Go.Proofs.YtgmfjninimebmaaGreatDoor
open Go.RowKit
set_option linter.unusedVariables false
set_option linter.unusedSimpArgs false

/-- A file: its name, its data, how much of it is synced. -/
structure Fl where
  nm : ByteArray
  dt : ByteArray
  sy : Int
def fl0 : Fl := ⟨ByteArray.empty, ByteArray.empty, 0⟩

/-- A file as a value. -/
abbrev Fl.agg (f : Fl) : Value := .agg #[.string f.nm, .string f.dt, .int .i64 f.sy]

/-- The files xs lie one behind the other from ⟨b, off⟩ on. -/
def LieAt (w : World) (b off : Nat) (xs : List Fl) : Prop :=
  b < w.heap.size ∧ ∀ i, i < xs.length → w.cell? ⟨b, off + i * 3, none⟩ = some (.string (xs.getD i fl0).nm) ∧
    w.cell? ⟨b, off + i * 3 + 1, none⟩ = some (.string (xs.getD i fl0).dt) ∧ w.cell? ⟨b, off + i * 3 + 2, none⟩ = some (.int .i64 (xs.getD i fl0).sy)

/-- A slice's address behind which the files xs lie (nothing is asked where there is none). -/
def Lie (w : World) (a : Option Addr) (xs : List Fl) : Prop :=
  xs = [] ∨ ∃ b off, a = some ⟨b, off, none⟩ ∧ LieAt w b off xs

theorem Lie.below {w w' : World} {a : Option Addr} {xs : List Fl} (h : Lie w a xs) (hb : Below w.heap.size w w') : Lie w' a xs := by
  rcases h with rfl | ⟨b, off, rfl, hlt, hc⟩
  · exact .inl rfl
  · refine .inr ⟨b, off, rfl, Nat.lt_of_lt_of_le hlt hb.size, fun i hi => ?_⟩
    obtain ⟨h1, h2, h3⟩ := hc i hi
    exact ⟨(hb.cell (p := ⟨b, _, none⟩) hlt).trans h1, (hb.cell (p := ⟨b, _, none⟩) hlt).trans h2, (hb.cell (p := ⟨b, _, none⟩) hlt).trans h3⟩

theorem Lie.at {w : World} {a : Option Addr} {xs : List Fl} (h : Lie w a xs) {i : Nat} (hi : i < xs.length) :
    ∃ b off, a = some ⟨b, off, none⟩ ∧ b < w.heap.size ∧ w.cell? ⟨b, off + i * 3, none⟩ = some (.string (xs.getD i fl0).nm) ∧
      w.cell? ⟨b, off + i * 3 + 1, none⟩ = some (.string (xs.getD i fl0).dt) ∧ w.cell? ⟨b, off + i * 3 + 2, none⟩ = some (.int .i64 (xs.getD i fl0).sy) := by
  rcases h with rfl | ⟨b, off, rfl, hlt, hc⟩
  · simp at hi
  · obtain ⟨h1, h2, h3⟩ := hc i hi
    exact ⟨b, off, rfl, hlt, h1, h2, h3⟩

theorem bcell {W w1 : World} (hb : Below W.heap.size W w1) : (∀ b o, b < W.heap.size → w1.cell? ⟨b, o, none⟩ = W.cell? ⟨b, o, none⟩) ∧ (∀ b o, b < W.heap.size → w1.frozen? ⟨b, o, none⟩ = W.frozen? ⟨b, o, none⟩) :=
  ⟨fun b o h => hb.cell (p := ⟨b, o, none⟩) h, fun b o h => hb.frozen (p := ⟨b, o, none⟩) h⟩

/-- Every text of a file fits into memory. -/
def Fits (xs : List Fl) : Prop := ∀ f ∈ xs, f.nm.size ≤ maxLen ∧ f.dt.size ≤ maxLen

theorem Fits.at {xs : List Fl} (h : Fits xs) {i : Nat} (hi : i < xs.length) : (xs.getD i fl0).nm.size ≤ maxLen ∧ (xs.getD i fl0).dt.size ≤ maxLen := by
  have : xs.getD i fl0 = xs[i] := by simp [List.getD, hi]
  rw [this]
  exact h _ (List.getElem_mem hi)

/-- How many bytes names and data have together. -/
def bulk (xs : List Fl) : Nat := (xs.map fun f => f.nm.size + f.dt.size).sum
/-- How many bytes the data have together. -/
def datas (xs : List Fl) : Nat := (xs.map fun f => f.dt.size).sum

theorem take_snoc (xs : List Fl) (k : Nat) (h : k < xs.length) : xs.take (k + 1) = xs.take k ++ [xs.getD k fl0] := by
  rw [List.take_succ_eq_append_getElem h]
  simp [List.getD, h]

theorem bulk_snoc (xs : List Fl) (k : Nat) (h : k < xs.length) : bulk (xs.take (k + 1)) = bulk (xs.take k) + ((xs.getD k fl0).nm.size + (xs.getD k fl0).dt.size) := by
  rw [take_snoc xs k h]
  simp only [bulk, List.map_append, List.sum_append, List.map_cons, List.map_nil, List.sum_cons, List.sum_nil]
  omega

theorem datas_snoc (xs : List Fl) (k : Nat) (h : k < xs.length) : datas (xs.take (k + 1)) = datas (xs.take k) + (xs.getD k fl0).dt.size := by
  rw [take_snoc xs k h]
  simp [datas]

theorem datas_le_bulk (xs : List Fl) : datas xs ≤ bulk xs := by
  induction xs with
  | nil => simp [datas, bulk]
  | cons f r ih => simp only [datas, bulk, List.map_cons, List.sum_cons] at *; omega

theorem datas_take_le (xs : List Fl) (k : Nat) : datas (xs.take k) ≤ datas xs := by
  have : datas xs = datas (xs.take k) + datas (xs.drop k) := by
    unfold datas
    rw [← List.sum_append, ← List.map_append, List.take_append_drop]
  omega

theorem bulk_take_le (xs : List Fl) (k : Nat) : bulk (xs.take k) ≤ bulk xs := by
  have : bulk xs = bulk (xs.take k) + bulk (xs.drop k) := by
    unfold bulk
    rw [← List.sum_append, ← List.map_append, List.take_append_drop]
  omega

theorem ret_int {k : IntKind} {a b : Int} (h : a = b) : Ending.returned (.int k a) = .returned (.int k b) := by rw [h]
theorem ret_bool {a b : Bool} (h : a = b) : Ending.returned (.bool a) = .returned (.bool b) := by rw [h]
end Go.Proofs.YtgmfjninimebmaaGreatDoor
namespace Go.Proofs.YtgmfjninimebmaaGreatDoor
open Go.RowKit
set_option linter.unusedVariables false
set_option linter.unusedSimpArgs false

set_option maxHeartbeats 400000 in
theorem szFile_any (f : Fl) (l : Int) (w : World) (h1 : f.nm.size ≤ maxLen) (h2 : f.dt.size ≤ maxLen) (l0 : 0 ≤ l) (l1 : l ≤ 1048576) :
    Calls Tryz.prog 29 #[f.agg, .int .i64 l] w fun e w' =>
      (∃ r : Int, e = .returned (.int .i64 r) ∧ r ≤ l ∧ (r = -1 ∨ (0 ≤ r ∧ r = l - f.nm.size - f.dt.size))) ∧ Below w.heap.size w w' := by
  unfold maxLen at h1 h2
  obtain ⟨n, d, s⟩ := f
  simp only at h1 h2
  go_enter Tryz.func29, Tryz.ntmps29
  go_wp2
  all_goals go_ret
  · exact ⟨⟨-1, rfl, by omega, .inl rfl⟩, (Below.refl _ _).alloc (Nat.le_refl _) _⟩
  · exact ⟨⟨-1, rfl, by omega, .inl rfl⟩, (Below.refl _ _).alloc (Nat.le_refl _) _⟩
  · exact ⟨⟨_, rfl, by omega, .inr ⟨by assumption, rfl⟩⟩, (Below.refl _ _).alloc (Nat.le_refl _) _⟩

set_option maxHeartbeats 400000 in
theorem toFile_any (f : Fl) (w : World) :
    Calls Tryz.prog 41 #[f.agg] w fun e w' => e = .returned f.agg ∧ Below w.heap.size w w' := by
  obtain ⟨n, d, s⟩ := f
  go_enter Tryz.func41, Tryz.ntmps41
  go_wp2
  exact bodyPost_ret (v := .agg #[.string n, .string d, .int .i64 s]) (by simp [results, Tryz.results41, go_sem]) rfl ⟨rfl, (((Below.refl _ _).alloc (Nat.le_refl _) _).alloc (by simp) _).alloc (by simp; omega) _⟩

set_option maxHeartbeats 400000 in
theorem szFileS_any (a : Option Addr) (cap : Nat) (xs : List Fl) (l : Int) (w : World) (hx : Lie w a xs) (hf : Fits xs) (hlen : xs.length ≤ maxLen) (l0 : 0 ≤ l) (l1 : l ≤ 1048576) :
    Calls Tryz.prog 13 #[.slice a xs.length cap, .int .i64 l] w fun e w' =>
      (∃ r : Int, e = .returned (.int .i64 r) ∧ r ≤ l ∧ (r = -1 ∨ (0 ≤ r ∧ r = l - xs.length - bulk xs))) ∧ Below w.heap.size w w' := by
  unfold maxLen at hlen
  by_cases hneg : l - (xs.length : Int) < 0
  · go_enter Tryz.func13, Tryz.ntmps13
    go_wp2
    go_ret
    exact ⟨⟨-1, rfl, by omega, .inl rfl⟩, Below.refl _ _⟩
  · go_enter Tryz.func13, Tryz.ntmps13
    go_wp2
    go_loopw [1, 5] (fun t i wr => ∃ k : Nat, k ≤ xs.length ∧ i = .int .i64 k ∧ 0 ≤ l - xs.length - bulk (xs.take k) ∧ t = .int .i64 (l - xs.length - bulk (xs.take k)) ∧ Below w.heap.size w wr) (fun _ i _ => xs.length - (intOf i).toNat)
    case atStart => exact ⟨0, Nat.zero_le _, rfl, by simp [bulk]; omega, by simp [bulk], Below.refl _ _⟩
    case round =>
      obtain ⟨k, hk, rfl, hge, rfl, hb⟩ := hrel
      by_cases hlt : k < xs.length
      · obtain ⟨b, off, rfl, hbl, c0, c1, c2⟩ := (hx.below hb).at hlt
        have hfk := hf.at hlt
        have HS : Hid (bulk (xs.take (k + 1)) = bulk (xs.take k) + ((xs.getD k fl0).nm.size + (xs.getD k fl0).dt.size)) := bulk_snoc xs k hlt
        generalize xs.getD k fl0 = f at *
        go_wp2_with fail
        refine (szFile_any f _ _ hfk.1 hfk.2 hge (by omega)).mono ?_
        rintro e w1 ⟨⟨r, rfl, hr1, hr2⟩, hb1⟩
        have hb2 : Below w.heap.size w w1 := hb.trans (hb1.mono hb.size)
        rcases hr2 with rfl | ⟨hr0, hr⟩
        · go_wp2
          go_ret
          exact ⟨⟨-1, rfl, by omega, .inl rfl⟩, hb2⟩
        · have HR : Hid (r = l - xs.length - bulk (xs.take k) - f.nm.size - f.dt.size) := hr
          clear hr
          have HE : Hid (l - xs.length - bulk (xs.take (k + 1)) = r) := by show _ = _; rw [HS.out, HR.out]; omega
          go_wp2
          go_roundw
          case rel => exact ⟨k + 1, by omega, by go_num, by rw [HE.out]; exact hr0, by rw [HE.out], hb2⟩
          case measure => simp [intOf]; omega
      · obtain rfl : k = xs.length := by omega
        rw [List.take_length] at hge ⊢
        go_wp2
        go_ret
        exact ⟨⟨_, rfl, by omega, .inr ⟨hge, rfl⟩⟩, hb⟩

set_option maxHeartbeats 400000 in
theorem szFS_any (a : Option Addr) (cap : Nat) (xs : List Fl) (q fu l : Int) (w : World) (hx : Lie w a xs) (hf : Fits xs) (hlen : xs.length ≤ maxLen) (l0 : 0 ≤ l) (l1 : l ≤ 1048576) :
    Calls Tryz.prog 4 #[.agg #[.slice a xs.length cap, .int .i64 q, .int .i64 fu], .int .i64 l] w fun e w' =>
      (∃ r : Int, e = .returned (.int .i64 r) ∧ r ≤ l ∧ (r = -1 ∨ (0 ≤ r ∧ r = l - xs.length - bulk xs))) ∧ Below w.heap.size w w' := by
  go_enter Tryz.func4, Tryz.ntmps4
  go_wp2_with fail
  have hb0 : Below w.heap.size w (w.alloc (.cells #[.slice a xs.length cap, .int .i64 q, .int .i64 fu] 24)) := (Below.refl _ _).alloc (Nat.le_refl _) _
  refine (szFileS_any a cap xs l _ (hx.below hb0) hf hlen l0 l1).mono ?_
  rintro e w1 ⟨⟨r, rfl, hr1, hr2⟩, hb1⟩
  have hb2 : Below w.heap.size w w1 := hb0.trans (hb1.mono hb0.size)
  rcases hr2 with rfl | ⟨hr0, hr⟩
  · go_wp2
    go_ret
    exact ⟨⟨-1, rfl, by omega, .inl rfl⟩, hb2⟩
  · have HR : Hid (r = l - xs.length - bulk xs) := hr
    clear hr
    go_wp2
    go_ret
    exact ⟨⟨r, rfl, by omega, .inr ⟨hr0, HR.out⟩⟩, hb2⟩
end Go.Proofs.YtgmfjninimebmaaGreatDoor
namespace Go.Proofs.YtgmfjninimebmaaGreatDoor
open Go.RowKit
set_option linter.unusedVariables false
set_option linter.unusedSimpArgs false

/-- Block g of the world is n files' room, none of it frozen; the first k of the files xs stand in it. -/
def Part (w : World) (g n : Nat) (xs : List Fl) (k : Nat) : Prop :=
  ∃ cs : Array Value, w.heap[g]? = some (.cells cs 66 (0, 0)) ∧ cs.size = n * 3 ∧
    ∀ i, i < k → cs[i * 3]? = some (.string (xs.getD i fl0).nm) ∧ cs[i * 3 + 1]? = some (.string (xs.getD i fl0).dt) ∧ cs[i * 3 + 2]? = some (.int .i64 (xs.getD i fl0).sy)

theorem Part.below {w w' : World} {B g n k : Nat} {xs : List Fl} (h : Part w g n xs k) (hb : Below B w w') (hg : g < B) : Part w' g n xs k := by
  obtain ⟨cs, h1, h2, h3⟩ := h
  exact ⟨cs, (hb.block g hg).trans h1, h2, h3⟩

theorem Part.cell {w : World} {g n k : Nat} {xs : List Fl} (h : Part w g n xs k) (o : Nat) (ho : o < n * 3) : ∃ v, w.cell? ⟨g, o, none⟩ = some v := by
  obtain ⟨cs, h1, h2, _⟩ := h
  exact ⟨cs[o]'(by omega), by simp [World.cell?, h1]⟩

theorem Part.frozen {w : World} {g n k : Nat} {xs : List Fl} (h : Part w g n xs k) (o : Nat) : w.frozen? ⟨g, o, none⟩ = false := by
  obtain ⟨cs, h1, _⟩ := h
  simp [World.frozen?, h1]

theorem iFile_info : (Tryz.prog.info? 66).map (fun i => (i.zero, i.size, i.bytes)) = some (some (.agg #[.string ByteArray.empty, .string ByteArray.empty, .int .i64 0]), 3, 40) := by kernel_rfl

theorem make_files (n : Nat) (h : n ≤ 1048576) (w : World) : (Instr.makeSlice 30 (.int .i64 (n : Int)) (.int .i64 (n : Int))).run Tryz.prog w = .ok (.slice (some ⟨w.heap.size, 0, none⟩) n n) (w.alloc (.cells (madeCells #[.string ByteArray.empty, .string ByteArray.empty, .int .i64 0] (n * 3)) 66)) := by
  have hi := iFile_info
  cases hj : Tryz.prog.info? 66 with
  | none => rw [hj] at hi; cases hi
  | some i =>
    rw [hj] at hi
    simp only [Option.map_some, Option.some.injEq, Prod.mk.injEq] at hi
    obtain ⟨hz, hs, hb⟩ := hi
    have := run_make (P := Tryz.prog) w 30 66 i _ Tryz.underlying30 hj hz .i64 .i64 (n : Int) (n : Int) (by omega) (Int.le_refl _) (by rw [hb]; omega) (by omega)
    rw [this, hs]
    simp [Value.cells]

/-- One file more, stored cell by cell. -/
theorem Part.step {w : World} {g n k : Nat} {xs : List Fl} (h : Part w g n xs k) (hk : k < n) {f : Fl} (hf : xs.getD k fl0 = f) :
    Part (((w.setCell ⟨g, k * 3, none⟩ (.string f.nm)).setCell ⟨g, k * 3 + 1, none⟩ (.string f.dt)).setCell ⟨g, k * 3 + 2, none⟩ (.int .i64 f.sy)) g n xs (k + 1) := by
  obtain ⟨cs, h1, h2, h3⟩ := h
  have e1 := heap_setCell_same w g (k * 3) cs _ (.string f.nm) h1
  have e2 := heap_setCell_same _ g (k * 3 + 1) _ _ (.string f.dt) e1
  have e3 := heap_setCell_same _ g (k * 3 + 2) _ _ (.int .i64 f.sy) e2
  refine ⟨_, e3, by simp [h2], fun i hi => ?_⟩
  by_cases hik : i = k
  · subst hik
    rw [hf]
    refine ⟨?_, ?_, ?_⟩
    · simp [Array.getElem?_setIfInBounds]; omega
    · simp [Array.getElem?_setIfInBounds]; omega
    · simp [Array.getElem?_setIfInBounds]; omega
  · obtain ⟨a0, a1, a2⟩ := h3 i (by omega)
    refine ⟨?_, ?_, ?_⟩
    · rw [Array.getElem?_setIfInBounds_ne (by omega), Array.getElem?_setIfInBounds_ne (by omega), Array.getElem?_setIfInBounds_ne (by omega)]; exact a0
    · rw [Array.getElem?_setIfInBounds_ne (by omega), Array.getElem?_setIfInBounds_ne (by omega), Array.getElem?_setIfInBounds_ne (by omega)]; exact a1
    · rw [Array.getElem?_setIfInBounds_ne (by omega), Array.getElem?_setIfInBounds_ne (by omega), Array.getElem?_setIfInBounds_ne (by omega)]; exact a2

theorem part_made (w : World) (n : Nat) (xs : List Fl) (z : Array Value) : Part (w.alloc (.cells (madeCells z (n * 3)) 66)) w.heap.size n xs 0 :=
  ⟨madeCells z (n * 3), World.heap_alloc_new _ _, by simp [madeCells], fun i hi => absurd hi (Nat.not_lt_zero _)⟩

set_option maxHeartbeats 400000 in
theorem toFileS_any (a : Option Addr) (cap : Nat) (xs : List Fl) (w : World) (hx : Lie w a xs) (hlen : xs.length ≤ 1048576) :
    Calls Tryz.prog 20 #[.slice a xs.length cap] w fun e w' =>
      ∃ g, e = .returned (.slice (some ⟨g, 0, none⟩) xs.length xs.length) ∧ w.heap.size ≤ g ∧ Part w' g xs.length xs xs.length ∧ Below w.heap.size w w' := by
  have hmk := make_files xs.length hlen
  generalize hz : (#[.string ByteArray.empty, .string ByteArray.empty, .int .i64 0] : Array Value) = z at hmk
  go_enter Tryz.func20, Tryz.ntmps20
  go_wp2
  go_loopw [4] (fun i wr => ∃ k : Nat, k ≤ xs.length ∧ i = .int .i64 k ∧ Part wr w.heap.size xs.length xs k ∧ w.heap.size < wr.heap.size ∧ Below w.heap.size w wr) (fun i _ => xs.length - (intOf i).toNat)
  case atStart => exact ⟨0, Nat.zero_le _, rfl, part_made _ _ _ _, by simp, (Below.refl _ _).alloc (Nat.le_refl _) _⟩
  case round =>
    obtain ⟨k, hk, rfl, hp, hg, hb⟩ := hrel
    by_cases hlt : k < xs.length
    · obtain ⟨b, off, rfl, hbl, c0, c1, c2⟩ := (hx.below hb).at hlt
      clear hmk
      generalize hf : xs.getD k fl0 = f at *
      have HF : Hid (xs.getD k fl0 = f) := hf
      clear hf
      go_wp2_with fail
      refine (toFile_any f _).mono ?_
      rintro e w1 ⟨rfl, hb1⟩
      have hp1 := hp.below hb1 hg
      have hsz := hb1.size
      obtain ⟨v0, e0⟩ := hp1.cell (k * 3) (by omega)
      obtain ⟨v1, e1⟩ := hp1.cell (k * 3 + 1) (by omega)
      obtain ⟨v2, e2⟩ := hp1.cell (k * 3 + 2) (by omega)
      have z0 := hp1.frozen (k * 3)
      have z1 := hp1.frozen (k * 3 + 1)
      have z2 := hp1.frozen (k * 3 + 2)
      have hst := hp1.step hlt HF.out
      go_wp2
      exact ⟨⟨k + 1, by omega, by go_num, hst, by simp; omega, (((hb.trans (hb1.mono hb.size)).setCell (Nat.le_refl _) _).setCell (Nat.le_refl _) _).setCell (Nat.le_refl _) _⟩, by simp [intOf]; omega⟩
    · obtain rfl : k = xs.length := by omega
      go_wp2
      go_ret
      exact ⟨_, rfl, Nat.le_refl _, hp, hb⟩

theorem Part.lie {w : World} {g : Nat} {xs : List Fl} (h : Part w g xs.length xs xs.length) : Lie w (some ⟨g, 0, none⟩) xs := by
  obtain ⟨cs, h1, h2, h3⟩ := h
  refine .inr ⟨g, 0, rfl, ?_, fun i hi => ?_⟩
  · by_cases hg : g < w.heap.size
    · exact hg
    · rw [Array.getElem?_eq_none (by omega)] at h1; cases h1
  · obtain ⟨a0, a1, a2⟩ := h3 i hi
    exact ⟨by simpa [World.cell?, h1] using a0, by simpa [World.cell?, h1] using a1, by simpa [World.cell?, h1] using a2⟩

theorem Part.other {w : World} {g n k : Nat} {xs : List Fl} (h : Part w g n xs k) {a : Addr} {v : Value} (ha : g ≠ a.block) : Part (w.setCell a v) g n xs k := by
  obtain ⟨cs, h1, h2, h3⟩ := h
  exact ⟨cs, by rw [Below.heap_setCell _ _ _ _ ha]; exact h1, h2, h3⟩

theorem Part.lt {w : World} {g n k : Nat} {xs : List Fl} (h : Part w g n xs k) : g < w.heap.size := by
  obtain ⟨cs, h1, _⟩ := h
  by_cases hg : g < w.heap.size
  · exact hg
  · rw [Array.getElem?_eq_none (by omega)] at h1; cases h1

set_option maxHeartbeats 400000 in
theorem toFS_any (a : Option Addr) (cap : Nat) (xs : List Fl) (q fu : Int) (w : World) (hx : Lie w a xs) (hlen : xs.length ≤ 1048576) :
    Calls Tryz.prog 6 #[.agg #[.slice a xs.length cap, .int .i64 q, .int .i64 fu]] w fun e w' =>
      ∃ g, e = .returned (.agg #[.slice (some ⟨g, 0, none⟩) xs.length xs.length, .int .i64 q, .int .i64 fu]) ∧ w.heap.size ≤ g ∧ Part w' g xs.length xs xs.length ∧ Below w.heap.size w w' := by
  go_enter Tryz.func6, Tryz.ntmps6
  go_wp2_with fail
  have hb0 : Below w.heap.size w (((w.alloc (.cells #[.slice a xs.length cap, .int .i64 q, .int .i64 fu] 24)).alloc (.cells #[.slice none 0 0, .int .i64 0, .int .i64 0] 32)).alloc (.cells #[.slice none 0 0, .int .i64 0, .int .i64 0] 32)) :=
    (((Below.refl _ _).alloc (Nat.le_refl _) _).alloc (by simp) _).alloc (by simp; omega) _
  refine (toFileS_any a cap xs _ (hx.below hb0) hlen).mono ?_
  rintro e w1 ⟨g, rfl, hg, hp, hb1⟩
  have hg' : w.heap.size + 3 ≤ g := by simpa using hg
  obtain ⟨hc, hz⟩ := bcell hb1
  have hsz := hb1.size
  simp at hsz
  have hbb : Below w.heap.size w w1 := hb0.trans (hb1.mono hb0.size)
  clear hx hb1 hb0
  go_wp2
  refine bodyPost_ret (v := .agg #[.slice (some ⟨g, 0, none⟩) xs.length xs.length, .int .i64 q, .int .i64 fu]) (by simp [results, Tryz.results6, go_sem, hc]) rfl ⟨g, rfl, by omega, ?_, ?_⟩
  · exact (((((hp.other (by dsimp only; omega)).other (by dsimp only; omega)).other (by dsimp only; omega)).other (by dsimp only; omega)).other (by dsimp only; omega)).other (by dsimp only; omega)
  · exact (((((hbb.setCell (by dsimp only; omega) _).setCell (by dsimp only; omega) _).setCell (by dsimp only; omega) _).setCell (by dsimp only; omega) _).setCell (by dsimp only; omega) _).setCell (by dsimp only; omega) _
end Go.Proofs.YtgmfjninimebmaaGreatDoor
namespace Go.Proofs.YtgmfjninimebmaaGreatDoor
open Go.RowKit
set_option linter.unusedVariables false
set_option linter.unusedSimpArgs false

/-- A good name. -/
def nmOk (n : ByteArray) : Bool := decide (1 ≤ n.size) && decide (n.size ≤ 120)

theorem l1NameOk_any (n : ByteArray) (w : World) (h : n.size ≤ maxLen) : Calls Tryz.prog 30 #[.string n] w fun e w' => e = .returned (.bool (nmOk n)) ∧ w' = w := by
  unfold maxLen at h
  by_cases h1 : 1 ≤ n.size
  · have h1' : (1 : Int) ≤ (n.size : Int) := by omega
    by_cases h2 : n.size ≤ 120
    · have h2' : (n.size : Int) ≤ 120 := by omega
      go_enter Tryz.func30, Tryz.ntmps30
      go_wp2
      go_ret
      exact ⟨ret_bool (by simp [nmOk, h1, h2]), rfl⟩
    · have h2' : ¬ (n.size : Int) ≤ 120 := by omega
      go_enter Tryz.func30, Tryz.ntmps30
      go_wp2
      go_ret
      exact ⟨ret_bool (by simp [nmOk, h1, h2]), rfl⟩
  · have h1' : ¬ (1 : Int) ≤ (n.size : Int) := by omega
    go_enter Tryz.func30, Tryz.ntmps30
    go_wp2
    go_ret
    exact ⟨ret_bool (by simp [nmOk, h1]), rfl⟩

theorem goodFileName_any (n : ByteArray) (w : World) (h : n.size ≤ maxLen) : Calls Tryz.prog 66 #[.string n] w fun e w' => e = .returned (.bool (nmOk n)) ∧ w' = w := by
  unfold maxLen at h
  by_cases h1 : 1 ≤ n.size
  · have h1' : (1 : Int) ≤ (n.size : Int) := by omega
    by_cases h2 : n.size ≤ 120
    · have h2' : (n.size : Int) ≤ 120 := by omega
      go_enter Tryz.func66, Tryz.ntmps66
      go_wp2
      go_ret
      exact ⟨ret_bool (by simp [nmOk, h1, h2]), rfl⟩
    · have h2' : ¬ (n.size : Int) ≤ 120 := by omega
      go_enter Tryz.func66, Tryz.ntmps66
      go_wp2
      go_ret
      exact ⟨ret_bool (by simp [nmOk, h1, h2]), rfl⟩
  · have h1' : ¬ (1 : Int) ≤ (n.size : Int) := by omega
    go_enter Tryz.func66, Tryz.ntmps66
    go_wp2
    go_ret
    exact ⟨ret_bool (by simp [nmOk, h1]), rfl⟩

set_option maxHeartbeats 400000 in
theorem l1Total_any (a : Option Addr) (cap : Nat) (xs : List Fl) (q fu : Int) (w : World) (hx : Lie w a xs) (hlen : xs.length ≤ 1048576) (hd : datas xs ≤ 1048576) :
    Calls Tryz.prog 32 #[.agg #[.slice a xs.length cap, .int .i64 q, .int .i64 fu]] w fun e w' => e = .returned (.int .i64 (datas xs)) ∧ Below w.heap.size w w' := by
  have hb0 : Below w.heap.size w (w.alloc (.cells #[.slice a xs.length cap, .int .i64 q, .int .i64 fu] 32)) := (Below.refl _ _).alloc (Nat.le_refl _) _
  go_enter Tryz.func32, Tryz.ntmps32
  go_wp2
  go_loop [3, 4] (fun t i => ∃ k : Nat, k ≤ xs.length ∧ i = .int .i64 k ∧ t = .int .i64 (datas (xs.take k))) (fun _ i => xs.length - (intOf i).toNat)
  case atStart => exact ⟨0, Nat.zero_le _, rfl, by simp [datas]⟩
  case round =>
    obtain ⟨k, hk, rfl, rfl⟩ := hrel
    by_cases hlt : k < xs.length
    · obtain ⟨b, off, rfl, hbl, c0, c1, c2⟩ := hx.at hlt
      have HS : Hid (datas (xs.take (k + 1)) = datas (xs.take k) + (xs.getD k fl0).dt.size) := datas_snoc xs k hlt
      have hle := datas_take_le xs (k + 1)
      rw [HS.out] at hle
      generalize xs.getD k fl0 = f at *
      go_wp2
      exact ⟨⟨k + 1, by omega, by go_num, by rw [HS.out]; go_num⟩, by simp [intOf]; omega⟩
    · obtain rfl : k = xs.length := by omega
      rw [List.take_length]
      go_wp2
      go_ret
      exact ⟨rfl, hb0⟩

theorem less_at : ∀ (k : Nat) (a b : List UInt8), (∀ j, j < k → a[j]? = b[j]?) → ∀ (ha : k < a.length) (hb : k < b.length), a[k] ≠ b[k] → Op.bytesLess a b = decide (a[k] < b[k])
  | 0, x :: a, y :: b, _, _, _, hne => by
    have hxy : x ≠ y := hne
    simp [Op.bytesLess, hxy]
  | k + 1, x :: a, y :: b, h, ha, hb, hne => by
    have h0 := h 0 (Nat.succ_pos _)
    simp at h0
    subst h0
    have hlt : ¬ x < x := by simp
    simp [Op.bytesLess, hlt]
    exact less_at k a b (fun j hj => by simpa using h (j + 1) (by omega)) (by simpa using ha) (by simpa using hb) (by simpa using hne)

theorem less_end : ∀ (a b : List UInt8), (∀ j, j < a.length → j < b.length → a[j]? = b[j]?) → Op.bytesLess a b = decide (a.length < b.length)
  | [], [], _ => by simp [Op.bytesLess]
  | [], y :: b, _ => by simp [Op.bytesLess]
  | x :: a, [], _ => by simp [Op.bytesLess]
  | x :: a, y :: b, h => by
    have h0 := h 0 (by simp) (by simp)
    simp at h0
    subst h0
    have hlt : ¬ x < x := by simp
    simp [Op.bytesLess, hlt]
    rw [less_end a b (fun j h1 h2 => by simpa using h (j + 1) (by simpa using h1) (by simpa using h2))]

/-- The order of texts. -/
def lessB (a b : ByteArray) : Bool := Op.bytesLess a.toList b.toList

theorem lessB_at (a b : ByteArray) (k : Nat) (h : ∀ j, j < k → a.data.toList[j]? = b.data.toList[j]?) (ha : k < a.size) (hb : k < b.size) (hne : a[k] ≠ b[k]) : lessB a b = decide (a[k] < b[k]) := by
  unfold lessB
  rw [ByteArray.toList_eq, ByteArray.toList_eq]
  exact less_at k a.data.toList b.data.toList h (by simpa using ha) (by simpa using hb) hne

theorem lessB_end (a b : ByteArray) (h : ∀ j, j < a.size → j < b.size → a.data.toList[j]? = b.data.toList[j]?) : lessB a b = decide (a.size < b.size) := by
  unfold lessB
  rw [ByteArray.toList_eq, ByteArray.toList_eq, less_end a.data.toList b.data.toList (fun j h1 h2 => h j (by simpa using h1) (by simpa using h2))]
  simp

set_option maxHeartbeats 400000 in
theorem l1Less_any (a b : ByteArray) (w : World) (ha : a.size ≤ maxLen) (hb : b.size ≤ maxLen) :
    Calls Tryz.prog 31 #[.string a, .string b] w fun e w' => e = .returned (.bool (lessB a b)) ∧ ∃ n, w' = w.drewN n := by
  unfold maxLen at ha hb
  go_enter Tryz.func31, Tryz.ntmps31
  go_wp2
  go_loopw [5] (fun i wr => ∃ k : Nat, k ≤ a.size ∧ k ≤ b.size ∧ i = .int .i64 k ∧ (∀ j, j < k → a.data.toList[j]? = b.data.toList[j]?) ∧ ∃ n, wr = w.drewN n) (fun i _ => a.size - (intOf i).toNat)
  case atStart => exact ⟨0, Nat.zero_le _, Nat.zero_le _, rfl, fun j hj => absurd hj (Nat.not_lt_zero _), 0, rfl⟩
  case round =>
    obtain ⟨k, hka, hkb, rfl, heq, n, rfl⟩ := hrel
    have HQ : Hid (∀ j, j < k → a.data.toList[j]? = b.data.toList[j]?) := heq
    clear heq
    by_cases h1 : k < a.size
    · by_cases h2 : k < b.size
      · have i1 : (k : Int) < (a.size : Int) := by omega
        have i2 : (k : Int) < (b.size : Int) := by omega
        by_cases hc : a[k] = b[k]
        · have hcb : ((a[k].toNat : Int) != (b[k].toNat : Int)) = false := by simp [hc]
          have HQ' : Hid (∀ j, j < k + 1 → a.data.toList[j]? = b.data.toList[j]?) := by
            intro j hj
            by_cases hjk : j < k
            · exact HQ.out j hjk
            · obtain rfl : j = k := by omega
              have e1 : a.data.toList[j]? = some a[j] := by simp [ByteArray.getElem_eq_getElem_data]
              have e2 : b.data.toList[j]? = some b[j] := by simp [ByteArray.getElem_eq_getElem_data]
              rw [e1, e2, hc]
          clear hc
          go_wp2_with fail
          go_quiet (fail)
          go_wp2_with fail
          exact ⟨⟨k + 1, by omega, by omega, by go_num, HQ'.out, _, rfl⟩, by simp [intOf]; omega⟩
        · have hne : a[k].toNat ≠ b[k].toNat := fun h => hc (UInt8.toNat_inj.1 h)
          have hcb : ((a[k].toNat : Int) != (b[k].toNat : Int)) = true := by simp; omega
          have HL : Hid (lessB a b = decide (a[k].toNat < b[k].toNat)) := by
            show _ = _
            rw [lessB_at a b k HQ.out h1 h2 hc]
            simp only [UInt8.lt_iff_toNat_lt]
          clear hc hne
          go_wp2_with fail
          go_quiet (fail)
          go_wp2_with fail
          go_quiet (fail)
          go_wp2_with fail
          go_ret
          exact ⟨ret_bool HL.out.symm, _, by rw [World.drewN_drewN, World.drewN_drewN]⟩
      · have i1 : (k : Int) < (a.size : Int) := by omega
        have i2 : ¬ (k : Int) < (b.size : Int) := by omega
        have HL : Hid (lessB a b = decide (a.size < b.size)) := by
          show _ = _
          rw [lessB_end a b (fun j _ hj => HQ.out j (by omega))]
        go_wp2_with fail
        go_ret
        exact ⟨ret_bool HL.out.symm, _, rfl⟩
    · have i1 : ¬ (k : Int) < (a.size : Int) := by omega
      have HL : Hid (lessB a b = decide (a.size < b.size)) := by
        show _ = _
        rw [lessB_end a b (fun j hj _ => HQ.out j (by omega))]
      go_wp2_with fail
      go_ret
      exact ⟨ret_bool HL.out.symm, _, rfl⟩
end Go.Proofs.YtgmfjninimebmaaGreatDoor
