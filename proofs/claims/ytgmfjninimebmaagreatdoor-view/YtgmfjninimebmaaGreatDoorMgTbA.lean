import Derived.Test.YtgmfjninimebmaaGreatDoorMgDecC
import Derived.Deep.RegionHeld3
namespace Go.Proofs.YtgmfjninimebmaaGreatDoor
open Go.RowKit Go.Maps
set_option linter.unusedVariables false
set_option linter.unusedSimpArgs false

/-- Whether an entry comes before another. -/
def befE (a b : En) : Bool := if a.ky = b.ky then decide (b.sq < a.sq) else lessB a.ky b.ky
set_option maxRecDepth 100000 in
set_option maxHeartbeats 1000000 in
theorem l3Before_any (a b : En) (w : World) (h1 : a.ky.size ≤ maxLen) (h2 : b.ky.size ≤ maxLen) :
    Calls Tryz.prog 59 #[a.agg, b.agg] w fun e w' => e = .returned (.bool (befE a b)) ∧ Below w.heap.size w w' := by
  have HL : Hid (∀ w, Calls Tryz.prog 31 #[.string a.ky, .string b.ky] w fun e w' => e = .returned (.bool (lessB a.ky b.ky)) ∧ ∃ n, w' = w.drewN n) := fun w => l1Less_any a.ky b.ky w h1 h2
  by_cases hk : a.ky = b.ky
  · have HB : Hid (befE a b = decide (b.sq < a.sq)) := by show _ = _; unfold befE; rw [if_pos hk]
    rw [HB.out]
    obtain ⟨k1, s1, d1, v1⟩ := a
    obtain ⟨k2, s2, d2, v2⟩ := b
    simp only at hk
    subst hk
    go_enter Tryz.func59, Tryz.ntmps59
    go_wp2_with fail
    go_ret
    exact ⟨rfl, ((Below.refl _ _).alloc (Nat.le_refl _) _).alloc (by simp) _⟩
  · have HB : Hid (befE a b = lessB a.ky b.ky) := by show _ = _; unfold befE; rw [if_neg hk]
    have hne : (!(a.ky.toList == b.ky.toList)) = true := by
      cases h : (a.ky.toList == b.ky.toList)
      · rfl
      · exact absurd (toList_eq' h) hk
    rw [HB.out]
    go_enter Tryz.func59, Tryz.ntmps59
    go_wp2_with fail
    refine (HL.out _).mono ?_
    rintro e w1 ⟨rfl, n, rfl⟩
    go_wp2_with fail
    go_ret
    exact ⟨rfl, ⟨rfl, rfl, rfl, by simp [World.drewN]; omega, fun k hk' => (((Below.refl w.heap.size w).alloc (Nat.le_refl _) _).alloc (by simp) _).block k hk'⟩⟩

/-- A text with its size in front. -/
def kyB (s : ByteArray) : List UInt8 := vb s.size ++ s.data.toList
set_option maxRecDepth 100000 in
theorem l3Keyed_any (s : ByteArray) (w : World) (h : s.size ≤ 1048576) :
    Calls Tryz.prog 62 #[.string s] w fun e w' => e = .returned (.string ⟨(kyB s).toArray⟩) ∧ Below w.heap.size w w' := by
  have HP : Hid (∀ w, Calls Tryz.prog 61 #[.int .i64 s.size] w fun e w' => e = .returned (.string (vtext s.size)) ∧ Below w.heap.size w w') := fun w => specPut_any s.size w
  have HV : Hid (vtext (s.size : Int) ++ s = ⟨(kyB s).toArray⟩) := by
    show _ = _
    rw [vtext_in _ (by omega) (by omega)]
    apply ByteArray.ext
    apply Array.toList_inj.1
    rw [appL]
    simp [kyB]
  have hvs := vtext_size (s.size : Int)
  have g1 : ((vtext (s.size : Int)).size : Int) ≤ 8 := by omega
  have g2 : (s.size : Int) ≤ 1048576 := by omega
  go_enter Tryz.func62, Tryz.ntmps62
  go_wp2_with fail
  refine (HP.out _).mono ?_
  rintro e w1 ⟨rfl, hb1⟩
  generalize vtext (s.size : Int) = V at *
  go_wp2_with fail
  go_ret
  exact ⟨by rw [← HV.out]; rfl, hb1⟩

/-- Whether a list is in order, each entry valid. -/
def okTo (xs : List En) : Nat → Bool
  | 0 => true
  | i + 1 => okTo xs i && (entOk (xs.getD i en0) && (decide (i = 0) || befE (xs.getD (i - 1) en0) (xs.getD i en0)))
theorem okTo_le {xs : List En} {i j : Nat} (h : okTo xs j = true) (hij : i ≤ j) : okTo xs i = true := by
  induction j with
  | zero => rw [show i = 0 by omega]; rfl
  | succ j ih =>
    by_cases he : i = j + 1
    · rw [he]; exact h
    · simp only [okTo, Bool.and_eq_true] at h
      exact ih h.1 (by omega)
end Go.Proofs.YtgmfjninimebmaaGreatDoor
namespace Go.Proofs.YtgmfjninimebmaaGreatDoor
open Go.RowKit Go.Maps
set_option linter.unusedVariables false
set_option linter.unusedSimpArgs false

theorem hdB {p : Prop} (h : p) : Hid p := h
theorem heap_ltB {w : World} {g : Nat} {o : Obj} (h : w.heap[g]? = some o) : g < w.heap.size := by
  by_cases hlt : g < w.heap.size
  · exact hlt
  · rw [Array.getElem?_eq_none (by omega)] at h; cases h
/-- What was there is kept, but for one block. -/
structure Gr (ob : Option Nat) (w w' : World) : Prop where
  os : w'.os = w.os
  tape : w'.tape = w.tape
  output : w'.output = w.output
  size : w.heap.size ≤ w'.heap.size
  block : ∀ k, k < w.heap.size → ob ≠ some k → w'.heap[k]? = w.heap[k]?
theorem Gr.refl (ob : Option Nat) (w : World) : Gr ob w w := ⟨rfl, rfl, rfl, Nat.le_refl _, fun _ _ _ => rfl⟩
theorem Gr.of {ob : Option Nat} {w w' : World} (h : Below w.heap.size w w') : Gr ob w w' := ⟨h.os, h.tape, h.output, h.size, fun k hk _ => h.block k hk⟩
theorem Gr.below {ob : Option Nat} {w w' : World} {B : Nat} (h : Gr ob w w') (ho : ∀ g, ob = some g → B ≤ g) (hB : B ≤ w.heap.size) : Below B w w' :=
  ⟨h.os, h.tape, h.output, h.size, fun k hk => h.block k (by omega) (fun e => by have := ho k e; omega)⟩
theorem owns_keepB {w w' : World} {B n size : Nat} {e : TypeId} {v : Value} {xs : List Value} (h : w.ownsRow B e size v n xs) (hb : ∀ g, v.ownBlock = some g → w'.heap[g]? = w.heap[g]?) : w'.ownsRow B e size v n xs := by
  obtain ⟨h1, h2⟩ := h
  refine ⟨h1, ?_⟩
  rcases h2 with h2 | ⟨g, cap, cur, rfl, hg, hbk, hrest⟩
  · exact .inl h2
  · exact .inr ⟨g, cap, cur, rfl, hg, (hb g rfl).trans hbk, hrest⟩
theorem owns_ltB {w : World} {B n size : Nat} {e : TypeId} {v : Value} {xs : List Value} (h : w.ownsRow B e size v n xs) : ∀ k, v.ownBlock = some k → k < w.heap.size := by
  intro k hk
  rcases h.2 with ⟨rfl, _⟩ | ⟨g, cap, cur, rfl, hg, hb, _⟩
  · cases hk
  · simp [Value.ownBlock] at hk
    subst hk
    exact heap_ltB hb

set_option maxRecDepth 100000 in
set_option maxHeartbeats 1000000 in
/-- l2Put changes its own row alone. -/
theorem l2Put_sep (B : Nat) (v : Value) (l : List UInt8) (s : ByteArray) (w : World) (ho : w.ownsRow B 5 1 v l.length (bc l)) (hB : B ≤ w.heap.size) (hs : l.length + s.size ≤ 70368744177664) :
    Calls Tryz.prog 60 #[v, .string s] w fun e w' => ∃ v', e = .returned v' ∧ w'.ownsRow B 5 1 v' (l ++ s.data.toList).length (bc (l ++ s.data.toList)) ∧ Gr v.ownBlock w w' ∧ (v'.ownBlock = v.ownBlock ∨ ∃ g, v'.ownBlock = some g ∧ w.heap.size ≤ g) := by
  obtain ⟨i0, hi, hz0, hz1, hz2⟩ := info_parts u8_info
  go_enter Tryz.func60, Tryz.ntmps60
  go_wp2_with fail
  go_loopw [0, 5] (fun x y wr => ∃ k : Nat, y = .int .i64 k ∧ k ≤ s.size ∧ wr.ownsRow B 5 1 x (l ++ s.data.toList.take k).length (bc (l ++ s.data.toList.take k)) ∧ Gr v.ownBlock w wr ∧ Hid (x.ownBlock = v.ownBlock ∨ ∃ g, x.ownBlock = some g ∧ w.heap.size ≤ g)) (fun _ y _ => s.size - (intOf y).toNat)
  case atStart => exact ⟨0, rfl, by omega, by simpa using ho, Gr.refl _ _, .inl rfl⟩
  case round =>
    obtain ⟨k, rfl, hk, hown, hb, HX⟩ := hrel
    have hbs := hb.size
    have hll : (l ++ s.data.toList.take k).length = l.length + k := by rw [List.length_append, List.length_take, Array.length_toList]; show _ + min k s.size = _; omega
    by_cases hlt : k < s.size
    · have HT : Hid (l ++ s.data.toList.take (k + 1) = l ++ s.data.toList.take k ++ [s[k]]) := by show _ = _; rw [byteL_at s k hlt, List.append_assoc]
      generalize l ++ s.data.toList.take k = m at *
      go_wp2_with (at_builtin; refine wpList_append_own_at _ rfl _ _ 111 rfl B 5 i0 (.int .u8 0) 1 1 Tryz.underlying111 hi hz0 hz1 hz2 rfl (by decide) _ _ _ rfl (hown.alloc _) ⟨wr.heap.size, 0, none⟩ 1 1 [.int .u8 (s[k].toNat : Int)] rfl rfl (cell_one_new _ _ _) (fun x hx => by simp at hx; subst hx; rfl) (by unfold maxLen; omega) (by omega) (by simp; omega) ?_; intro v' w4 hown' hgrow hnil hat)
      have hG : Gr v.ownBlock w w4 := ⟨hgrow.os.trans hb.os, hgrow.tape.trans hb.tape, hgrow.output.trans hb.output, Nat.le_trans hbs (Nat.le_trans (by simp) hgrow.size), fun g hg hne => by
        refine (hgrow.block g (by simp; omega) (fun e => ?_)).trans ((Below.heap_alloc _ _ _ (by omega)).trans (hb.block g hg hne))
        rcases HX.out with h | ⟨g', h, hg'⟩
        · exact hne (h.symm.trans e.symm)
        · have e2 := e.trans h
          cases e2
          omega⟩
      have hX' : v'.ownBlock = v.ownBlock ∨ ∃ g, v'.ownBlock = some g ∧ w.heap.size ≤ g := by
        rcases hat with h | h
        · rcases HX.out with h2 | ⟨g, h2, h3⟩
          · exact .inl (h.trans h2)
          · exact .inr ⟨g, h.trans h2, h3⟩
        · exact .inr ⟨_, h, by simp; omega⟩
      refine ⟨⟨k + 1, by simp, by omega, ?_, hG, hX'⟩, by simp only [intOf]; omega⟩
      rw [HT.out]
      have e : bc (m ++ [s[k]]) = bc m ++ [Value.int .u8 (s[k].toNat : Int)] := by simp [bc]
      rw [e, List.length_append]
      exact hown'
    · obtain rfl : k = s.size := by omega
      have e : s.data.toList.take s.size = s.data.toList := List.take_of_length_le (by rw [Array.length_toList]; exact Nat.le_refl _)
      rw [e] at hown
      go_wp2_with fail
      go_ret
      exact ⟨_, rfl, hown, hb, HX.out⟩
end Go.Proofs.YtgmfjninimebmaaGreatDoor
namespace Go.Proofs.YtgmfjninimebmaaGreatDoor
open Go.RowKit Go.Maps
set_option linter.unusedVariables false
set_option linter.unusedSimpArgs false

/-- The order of numbers, and of entries, as the program has it. -/
def cmpI (x y : Int) : Int := if x < y then -1 else if y < x then 1 else 0
def ordE (a b : En) : Int := if Lib.compareBytes a.ky.data.toList b.ky.data.toList ≠ 0 then Lib.compareBytes a.ky.data.toList b.ky.data.toList else cmpI b.sq a.sq
theorem compare_less : ∀ (a b : List UInt8), (Lib.compareBytes a b < 0 ↔ Op.bytesLess a b = true) ∧ (Lib.compareBytes a b = 0 ↔ a = b)
  | [], [] => by simp [Lib.compareBytes, Op.bytesLess]
  | [], _ :: _ => by simp [Lib.compareBytes, Op.bytesLess]
  | _ :: _, [] => by simp [Lib.compareBytes, Op.bytesLess]
  | x :: a, y :: b => by
    obtain ⟨h1, h2⟩ := compare_less a b
    unfold Lib.compareBytes
    by_cases hlt : x < y
    · have hne : x ≠ y := fun h => by subst h; exact absurd hlt (by simp)
      rw [if_pos hlt]
      simp [Op.bytesLess, hlt, hne]
    · rw [if_neg hlt]
      by_cases hgt : y < x
      · have hne : x ≠ y := fun h => by subst h; exact absurd hgt (by simp)
        rw [if_pos hgt]
        simp [Op.bytesLess, hlt, hne]
      · have he : x = y := by
          rw [UInt8.lt_iff_toNat_lt] at hlt hgt
          exact UInt8.toNat_inj.1 (by omega)
        subst he
        rw [if_neg hgt]
        simp [Op.bytesLess, h1, h2]
theorem ordE_lt (a b : En) : decide (0 ≤ ordE a b) = !befE a b := by
  obtain ⟨h1, h2⟩ := compare_less a.ky.data.toList b.ky.data.toList
  have hb : lessB a.ky b.ky = Op.bytesLess a.ky.data.toList b.ky.data.toList := by unfold lessB; rw [ByteArray.toList_eq, ByteArray.toList_eq]
  unfold ordE befE
  by_cases he : a.ky = b.ky
  · have hz : Lib.compareBytes a.ky.data.toList b.ky.data.toList = 0 := h2.2 (by rw [he])
    rw [if_neg (by rw [hz]; simp), if_pos he]
    unfold cmpI
    by_cases h : b.sq < a.sq
    · simp [h]
    · by_cases h' : a.sq < b.sq
      · simp [h, h']
      · simp [h, h']
  · have hz : Lib.compareBytes a.ky.data.toList b.ky.data.toList ≠ 0 := fun h => he (ByteArray.ext (Array.toList_inj.1 (h2.1 h)))
    rw [if_pos hz, if_neg he, hb]
    cases hl : Op.bytesLess a.ky.data.toList b.ky.data.toList with
    | true =>
      have := h1.2 hl
      simp; omega
    | false =>
      have : ¬ Lib.compareBytes a.ky.data.toList b.ky.data.toList < 0 := fun h => by rw [h1.1 h] at hl; cases hl
      simp; omega

set_option maxRecDepth 100000 in
theorem isNaN_any (x : Int) (w : World) : Calls Tryz.prog 157 #[.int .i64 x] w fun e w' => e = .returned (.bool false) ∧ w' = w := by
  go_enter Tryz.func157, Tryz.ntmps157
  go_wp2_with fail
  go_ret
  exact ⟨rfl, rfl⟩
set_option maxRecDepth 100000 in
theorem cmpInt_any (x y : Int) (w : World) : Calls Tryz.prog 136 #[.int .i64 x, .int .i64 y] w fun e w' => e = .returned (.int .i64 (cmpI x y)) ∧ w' = w := by
  unfold cmpI
  by_cases h1 : x < y
  · rw [if_pos h1]
    go_enter Tryz.func136, Tryz.ntmps136
    go_wp2_with (go_at_call 157; refine (isNaN_any _ _).mono ?_; rintro e w' ⟨rfl, rfl⟩)
    go_ret
    exact ⟨rfl, rfl⟩
  · by_cases h2 : y < x
    · rw [if_neg h1, if_pos h2]
      go_enter Tryz.func136, Tryz.ntmps136
      go_wp2_with (go_at_call 157; refine (isNaN_any _ _).mono ?_; rintro e w' ⟨rfl, rfl⟩)
      go_ret
      exact ⟨rfl, rfl⟩
    · rw [if_neg h1, if_neg h2]
      go_enter Tryz.func136, Tryz.ntmps136
      go_wp2_with (go_at_call 157; refine (isNaN_any _ _).mono ?_; rintro e w' ⟨rfl, rfl⟩)
      go_ret
      exact ⟨rfl, rfl⟩
set_option maxRecDepth 100000 in
theorem cmpOr_any (g : Nat) (x y : Int) (w : World) (c0 : w.cell? ⟨g, 0, none⟩ = some (.int .i64 x)) (c1 : w.cell? ⟨g, 1, none⟩ = some (.int .i64 y)) :
    Calls Tryz.prog 134 #[.slice (some ⟨g, 0, none⟩) 2 2] w fun e w' => e = .returned (.int .i64 (if x ≠ 0 then x else y)) ∧ w' = w := by
  by_cases hx : x = 0
  · subst hx
    rw [if_neg (by simp)]
    by_cases hy : y = 0
    · subst hy
      go_enter Tryz.func134, Tryz.ntmps134
      go_wp2_with fail
      refine wp_loop_rounds 3 ?_
      rw [rounds_succ]
      go_wp2_with fail
      rw [rounds_succ]
      go_wp2_with fail
      rw [rounds_succ]
      go_wp2_with fail
      go_ret
      exact ⟨rfl, rfl⟩
    · have hy' : (y != 0) = true := by rw [bne_iff_ne]; exact hy
      go_enter Tryz.func134, Tryz.ntmps134
      go_wp2_with fail
      refine wp_loop_rounds 2 ?_
      rw [rounds_succ]
      go_wp2_with fail
      rw [rounds_succ]
      go_wp2_with fail
      go_ret
      exact ⟨rfl, rfl⟩
  · rw [if_pos hx]
    have hx' : (x != 0) = true := by rw [bne_iff_ne]; exact hx
    go_enter Tryz.func134, Tryz.ntmps134
    go_wp2_with fail
    refine wp_loop_rounds 1 ?_
    rw [rounds_succ]
    go_wp2_with fail
    go_ret
    exact ⟨rfl, rfl⟩
end Go.Proofs.YtgmfjninimebmaaGreatDoor
namespace Go.Proofs.YtgmfjninimebmaaGreatDoor
open Go.RowKit Go.Maps
set_option linter.unusedVariables false
set_option linter.unusedSimpArgs false

theorem fourB {w : World} {p : Nat} {t : TypeId} {x0 x1 x2 x3 : Value} (h : w.heap[p]? = some (.cells #[x0, x1, x2, x3] t (0, 0))) :
    w.cell? ⟨p, 0, none⟩ = some x0 ∧ w.cell? ⟨p, 1, none⟩ = some x1 ∧ w.cell? ⟨p, 2, none⟩ = some x2 ∧ w.cell? ⟨p, 3, none⟩ = some x3 := by
  refine ⟨?_, ?_, ?_, ?_⟩ <;> simp [World.cell?, h]

def orI (x y : Int) : Int := if x ≠ 0 then x else y
theorem cmpOr_or (g : Nat) (x y : Int) (w : World) (c0 : w.cell? ⟨g, 0, none⟩ = some (.int .i64 x)) (c1 : w.cell? ⟨g, 1, none⟩ = some (.int .i64 y)) :
    Calls Tryz.prog 134 #[.slice (some ⟨g, 0, none⟩) 2 2] w fun e w' => e = .returned (.int .i64 (orI x y)) ∧ w' = w := cmpOr_any g x y w c0 c1

set_option maxRecDepth 100000 in
set_option maxHeartbeats 400000 in
theorem entryOrder_any (a b : En) (w : World) :
    Calls Tryz.prog 86 #[a.agg, b.agg] w fun e w' => e = .returned (.int .i64 (ordE a b)) ∧ Below w.heap.size w w' := by
  have HS := hdB (fun w => Tryz.strings_Compare a.ky b.ky w)
  have HI := hdB (fun w => cmpInt_any b.sq a.sq w)
  have HR : Hid (ordE a b = orI (Lib.compareBytes a.ky.data.toList b.ky.data.toList) (cmpI b.sq a.sq)) := rfl
  rw [HR.out]
  generalize Lib.compareBytes a.ky.data.toList b.ky.data.toList = c1 at *
  generalize cmpI b.sq a.sq = c2 at *
  obtain ⟨k1, s1, d1, v1⟩ := a
  obtain ⟨k2, s2, d2, v2⟩ := b
  dsimp only at *
  clear HR
  generalize hW0 : (w.alloc (.cells #[.string k1, .int .i64 s1, .int .i64 d1, .string v1] 50)).alloc (.cells #[.string k2, .int .i64 s2, .int .i64 d2, .string v2] 50) = W0
  have hA : W0.heap[w.heap.size]? = some (.cells #[.string k1, .int .i64 s1, .int .i64 d1, .string v1] 50 (0, 0)) := by rw [← hW0, Below.heap_alloc _ _ _ (by simp)]; exact World.heap_alloc_new _ _
  have hB : W0.heap[w.heap.size + 1]? = some (.cells #[.string k2, .int .i64 s2, .int .i64 d2, .string v2] 50 (0, 0)) := by
    rw [← hW0]
    have h := World.heap_alloc_new (w.alloc (.cells #[.string k1, .int .i64 s1, .int .i64 d1, .string v1] 50)) (.cells #[.string k2, .int .i64 s2, .int .i64 d2, .string v2] 50)
    rwa [show (w.alloc (.cells #[.string k1, .int .i64 s1, .int .i64 d1, .string v1] 50)).heap.size = w.heap.size + 1 by simp] at h
  have hb0 : Below w.heap.size w W0 := by rw [← hW0]; exact ((Below.refl _ _).alloc (Nat.le_refl _) _).alloc (by simp) _
  have hsz : W0.heap.size = w.heap.size + 2 := by rw [← hW0]; simp
  have hlA : w.heap.size < W0.heap.size := by omega
  have hlB : w.heap.size + 1 < W0.heap.size := by omega
  obtain ⟨x0, x1, -, -⟩ := fourB hA
  obtain ⟨y0, y1, -, -⟩ := fourB hB
  have HC := hdB (cmpOr_or)
  have HB := hdB hb0
  clear hb0 hA hB hsz
  go_enter Tryz.func86, Tryz.ntmps86
  go_wp2_with fail
  go_region_held3 (fun w' => w'.cell? ⟨w.heap.size, 0, none⟩ = some (.string k1) ∧ w'.cell? ⟨w.heap.size, 1, none⟩ = some (.int .i64 s1) ∧ w'.cell? ⟨w.heap.size + 1, 0, none⟩ = some (.string k2) ∧ w'.cell? ⟨w.heap.size + 1, 1, none⟩ = some (.int .i64 s2)) (simp [go_sem, *])
    (first
      | (go_at_call 135; refine (HS.out _).mono ?_; rintro e w1 ⟨rfl, rfl⟩)
      | (go_at_call 136; refine (HI.out _).mono ?_; rintro e w2 ⟨rfl, rfl⟩)
      | (go_at_call 134; refine (HC.out _ c1 c2 _ (by simp) (by simp)).mono ?_; rintro e w3 ⟨rfl, rfl⟩))
  all_goals go_wp2_with fail
  all_goals go_ret
  all_goals exact ⟨rfl, by first | exact (HB.out.alloc HB.out.size _).drew | exact HB.out.drew.alloc HB.out.size _⟩

/-- Whether the entries are in order, as the program has it. -/
def ordTo (xs : List En) : Nat → Bool
  | 0 => true
  | i + 1 => ordTo xs i && befE (xs.getD i en0) (xs.getD (i + 1) en0)
theorem ordTo_le {xs : List En} {i j : Nat} (h : ordTo xs j = true) (hij : i ≤ j) : ordTo xs i = true := by
  induction j with
  | zero => rw [show i = 0 by omega]; rfl
  | succ j ih =>
    by_cases he : i = j + 1
    · rw [he]; exact h
    · simp only [ordTo, Bool.and_eq_true] at h
      exact ih h.1 (by omega)
theorem ordTo_bad {xs : List En} {n k : Nat} (hk : k < n) (h : ordTo xs (k + 1) = false) : ordTo xs n = false := by
  cases hn : ordTo xs n with
  | false => rfl
  | true => rw [ordTo_le hn (by omega)] at h; cases h

set_option maxRecDepth 100000 in
set_option maxHeartbeats 2000000 in
theorem inOrder_any (a : Option Addr) (cap : Nat) (xs : List En) (w : World) (hx : LieE w a xs) (hlen : xs.length ≤ 1048576) :
    Calls Tryz.prog 121 #[.slice a xs.length cap] w fun e w' => e = .returned (.bool (ordTo xs (xs.length - 1))) ∧ Below w.heap.size w w' := by
  have HBad : Hid (∀ k, k < xs.length - 1 → ordTo xs (k + 1) = false → ordTo xs (xs.length - 1) = false) := fun k hk h => ordTo_bad hk h
  generalize hT : ordTo xs (xs.length - 1) = T at *
  have HT := hdB hT
  clear hT
  go_enter Tryz.func121, Tryz.ntmps121
  go_wp2_with fail
  go_loopw [7] (fun y wr => ∃ k : Nat, y = .int .i64 k ∧ (k : Int) ≤ max 0 ((xs.length : Int) - 1) ∧ Hid (ordTo xs k = true) ∧ Below w.heap.size w wr) (fun y _ => xs.length - (intOf y).toNat)
  case atStart => exact ⟨0, rfl, by omega, rfl, Below.refl _ _⟩
  case round =>
    obtain ⟨k, rfl, hk, HAll, hb⟩ := hrel
    by_cases hlt : k + 1 < xs.length
    · obtain ⟨b, off, rfl, hbl, c0, c1, c2, c3⟩ := (hx.below hb).at (i := k) (by omega)
      obtain ⟨b', off', e, -, d0, d1, d2, d3⟩ := (hx.below hb).at (i := k + 1) hlt
      cases e
      have hik : (k : Int) < (xs.length : Int) - 1 := by omega
      have hik2 : (k : Int) + 1 < (xs.length : Int) := by omega
      have hik3 : (k : Int) < (xs.length : Int) := by omega
      have hwk : IntKind.i64.wrap ((k : Int) + 1) = (k : Int) + 1 := by rw [IntKind.wrap_i64]; omega
      have hpk : (0 : Int) ≤ (k : Int) + 1 := by omega
      have htk : ((k : Int) + 1).toNat = k + 1 := by omega
      have HStep : Hid (ordTo xs (k + 1) = befE (xs.getD k en0) (xs.getD (k + 1) en0)) := by show _ = _; simp only [ordTo, HAll.out, Bool.true_and]
      have HO := hdB (fun w => entryOrder_any (xs.getD k en0) (xs.getD (k + 1) en0) w)
      have HL := hdB (ordE_lt (xs.getD k en0) (xs.getD (k + 1) en0))
      have HBk := hdB (HBad.out k (by omega))
      have HB := hdB hb
      clear HAll hb
      generalize xs.getD k en0 = f at *
      generalize xs.getD (k + 1) en0 = f' at *
      obtain ⟨k1, s1, q1, v1⟩ := f
      obtain ⟨k2, s2, q2, v2⟩ := f'
      dsimp only at *
      cases hbe : befE ⟨k1, s1, q1, v1⟩ ⟨k2, s2, q2, v2⟩ with
      | false =>
        have hTe := HBk.out (by rw [HStep.out, hbe])
        have hge : (0 : Int) ≤ ordE ⟨k1, s1, q1, v1⟩ ⟨k2, s2, q2, v2⟩ := by have := HL.out; rw [hbe] at this; simpa using this
        clear HStep HL HBk
        subst hTe
        go_wp2_with fail
        go_region_held3 (fun w' => w'.cell? ⟨b, off + k * 4, none⟩ = some (.string k1) ∧ w'.cell? ⟨b, off + k * 4 + 1, none⟩ = some (.int .i64 s1) ∧ w'.cell? ⟨b, off + k * 4 + 2, none⟩ = some (.int .i64 q1) ∧ w'.cell? ⟨b, off + k * 4 + 3, none⟩ = some (.string v1) ∧ w'.cell? ⟨b, off + (k + 1) * 4, none⟩ = some (.string k2) ∧ w'.cell? ⟨b, off + (k + 1) * 4 + 1, none⟩ = some (.int .i64 s2) ∧ w'.cell? ⟨b, off + (k + 1) * 4 + 2, none⟩ = some (.int .i64 q2) ∧ w'.cell? ⟨b, off + (k + 1) * 4 + 3, none⟩ = some (.string v2)) (simp [go_sem, *])
          (first | (go_at_call 86; refine (HO.out _).mono ?_; rintro e w1 ⟨rfl, hb1⟩; have a0 := (hb1.cell (p := ⟨b, _, none⟩) hbl).trans c0; have a1 := (hb1.cell (p := ⟨b, _, none⟩) hbl).trans c1; have a2 := (hb1.cell (p := ⟨b, _, none⟩) hbl).trans c2; have a3 := (hb1.cell (p := ⟨b, _, none⟩) hbl).trans c3; have b0 := (hb1.cell (p := ⟨b, _, none⟩) hbl).trans d0; have b1 := (hb1.cell (p := ⟨b, _, none⟩) hbl).trans d1; have b2 := (hb1.cell (p := ⟨b, _, none⟩) hbl).trans d2; have b3 := (hb1.cell (p := ⟨b, _, none⟩) hbl).trans d3; have HB1 := hdB (HB.out.drew.trans (hb1.mono HB.out.size)); clear hb1))
        all_goals go_wp2_with fail
        all_goals go_ret
        all_goals exact ⟨rfl, HB1.out⟩
      | true =>
        have hA := hdB (HStep.out.trans hbe)
        have hge : ¬ (0 : Int) ≤ ordE ⟨k1, s1, q1, v1⟩ ⟨k2, s2, q2, v2⟩ := by have := HL.out; rw [hbe] at this; simpa using this
        clear HStep HL HBk
        go_wp2_with fail
        go_region_held3 (fun w' => w'.cell? ⟨b, off + k * 4, none⟩ = some (.string k1) ∧ w'.cell? ⟨b, off + k * 4 + 1, none⟩ = some (.int .i64 s1) ∧ w'.cell? ⟨b, off + k * 4 + 2, none⟩ = some (.int .i64 q1) ∧ w'.cell? ⟨b, off + k * 4 + 3, none⟩ = some (.string v1) ∧ w'.cell? ⟨b, off + (k + 1) * 4, none⟩ = some (.string k2) ∧ w'.cell? ⟨b, off + (k + 1) * 4 + 1, none⟩ = some (.int .i64 s2) ∧ w'.cell? ⟨b, off + (k + 1) * 4 + 2, none⟩ = some (.int .i64 q2) ∧ w'.cell? ⟨b, off + (k + 1) * 4 + 3, none⟩ = some (.string v2)) (simp [go_sem, *])
          (first | (go_at_call 86; refine (HO.out _).mono ?_; rintro e w1 ⟨rfl, hb1⟩; have a0 := (hb1.cell (p := ⟨b, _, none⟩) hbl).trans c0; have a1 := (hb1.cell (p := ⟨b, _, none⟩) hbl).trans c1; have a2 := (hb1.cell (p := ⟨b, _, none⟩) hbl).trans c2; have a3 := (hb1.cell (p := ⟨b, _, none⟩) hbl).trans c3; have b0 := (hb1.cell (p := ⟨b, _, none⟩) hbl).trans d0; have b1 := (hb1.cell (p := ⟨b, _, none⟩) hbl).trans d1; have b2 := (hb1.cell (p := ⟨b, _, none⟩) hbl).trans d2; have b3 := (hb1.cell (p := ⟨b, _, none⟩) hbl).trans d3; have HB1 := hdB (HB.out.drew.trans (hb1.mono HB.out.size)); clear hb1))
        all_goals go_wp2_with fail
        all_goals exact ⟨⟨k + 1, by simp, by omega, hA, HB1.out⟩, by simp only [intOf]; omega⟩
    · have hik : ¬ (k : Int) < (xs.length : Int) - 1 := by omega
      have hTe : T = true := by rw [← HT.out]; rw [show xs.length - 1 = k by omega]; exact HAll.out
      subst hTe
      go_wp2_with fail
      go_ret
      exact ⟨rfl, hb⟩
end Go.Proofs.YtgmfjninimebmaaGreatDoor
namespace Go.Proofs.YtgmfjninimebmaaGreatDoor
open Go.RowKit Go.Maps
set_option linter.unusedVariables false
set_option linter.unusedSimpArgs false

/-- The k-th block of entries. -/
def subE (xs : List En) (k : Nat) : List En := (xs.drop (8 * k)).take 8
/-- The bytes of the first k blocks, and of the index that speaks of them. -/
def tab (xs : List En) : Nat → List UInt8 × List UInt8
  | 0 => ([], [])
  | k + 1 => ((tab xs k).1 ++ (frT 66 (encT (subE xs k))).data.toList, (tab xs k).2 ++ (vb ((tab xs k).1.length / 64) ++ vb (subE xs k).length ++ kyB ((subE xs k).getD 0 en0).ky ++ kyB ((subE xs k).getD ((subE xs k).length - 1) en0).ky))
def nbE (n : Nat) : Nat := (n + 7) / 8
def idxT (xs : List En) : ByteArray := frT 73 ⟨(vb (nbE xs.length) ++ (tab xs (nbE xs.length)).2).toArray⟩
def tabX (xs : List En) : ByteArray := if (idxT xs).size = 0 then ⟨#[]⟩ else ⟨((tab xs (nbE xs.length)).1 ++ (idxT xs).data.toList ++ (frT 70 ⟨(vb ((tab xs (nbE xs.length)).1.length / 64)).toArray⟩).data.toList).toArray⟩
def tabT (xs : List En) : ByteArray := if xs.length ≤ 300000 ∧ okTo xs xs.length = true then tabX xs else ⟨#[]⟩

theorem okTo_split (xs : List En) : ∀ n, n ≤ xs.length → (okTo xs n = true ↔ (xs.take n).all entOk = true ∧ ordTo xs (n - 1) = true)
  | 0, _ => by simp [okTo, ordTo]
  | n + 1, h => by
    have ih := okTo_split xs n (by omega)
    rw [takeE_snoc xs n (by omega), List.all_append]
    simp only [okTo, Bool.and_eq_true, List.all_cons, List.all_nil, Bool.and_true]
    rw [ih]
    cases n with
    | zero => simp [ordTo]
    | succ m =>
      have e1 : m + 1 - 1 = m := by omega
      have e2 : m + 1 + 1 - 1 = m + 1 := by omega
      have e3 : decide (m + 1 = 0) = false := by simp
      rw [e1, e2, e3]
      simp only [ordTo, Bool.and_eq_true, Bool.false_or]
      constructor
      · rintro ⟨⟨a, b⟩, c, d⟩
        exact ⟨⟨a, c⟩, b, d⟩
      · rintro ⟨⟨a, c⟩, b, d⟩
        exact ⟨⟨a, b⟩, c, d⟩
theorem okTo_all (xs : List En) : okTo xs xs.length = true ↔ xs.all entOk = true ∧ ordTo xs (xs.length - 1) = true := by
  have h := okTo_split xs xs.length (Nat.le_refl _)
  rwa [List.take_length] at h
theorem subE_len (xs : List En) (k : Nat) : (subE xs k).length = min 8 (xs.length - 8 * k) := by simp [subE]
theorem subE_all {xs : List En} (h : xs.all entOk = true) (k : Nat) : (subE xs k).all entOk = true :=
  List.all_eq_true.2 fun x hx => List.all_eq_true.1 h x (List.mem_of_mem_drop (List.mem_of_mem_take hx))
theorem subE_at (xs : List En) (k i : Nat) (hi : i < 8) (h : 8 * k + i < xs.length) : (subE xs k).getD i en0 = xs.getD (8 * k + i) en0 := by
  simp only [subE, List.getD, List.getElem?_take, List.getElem?_drop]
  rw [if_pos hi]
theorem subE_enc {xs : List En} (h : xs.all entOk = true) (k : Nat) : encT (subE xs k) = ⟨(encB (subE xs k).length (subE xs k)).toArray⟩ :=
  encT_ok _ (by rw [subE_len]; omega) (subE_all h k)
theorem subE_size {xs : List En} (h : xs.all entOk = true) (k : Nat) : (encT (subE xs k)).size ≤ 40208 := by
  rw [subE_enc h k]
  have h1 := encB_len (subE xs k).length (subE xs k) (subE_all h k)
  have h2 := subE_len xs k
  show (encB (subE xs k).length (subE xs k)).toArray.size ≤ _
  rw [List.size_toArray]
  omega
theorem frB_len (k : Nat) (p : List UInt8) : (frB k p).length = 64 * pagesN (8 + p.length) := by
  unfold frB
  rw [fby_len, body_len]
  unfold pagesN
  omega
theorem frT_size {k : Int} {p : ByteArray} (h1 : kindOk k = true) (h2 : p.size ≤ 1048576) : (frT k p).size = 64 * pagesN (8 + p.size) := by
  rw [frT_in h1 h2]
  show (frB k.toNat p.data.toList).toArray.size = _
  rw [List.size_toArray, frB_len, dataL]
theorem frT_data {k : Int} {p : ByteArray} (h1 : kindOk k = true) (h2 : p.size ≤ 1048576) : (frT k p).data.toList.length = 64 * pagesN (8 + p.size) := by
  rw [dataL, frT_size h1 h2]
theorem tab_len {xs : List En} (h : xs.all entOk = true) : ∀ k, (tab xs k).1.length ≤ 40960 * k
  | 0 => by simp [tab]
  | k + 1 => by
    have ih := tab_len h k
    have hs := subE_size h k
    simp only [tab, List.length_append]
    rw [frT_data (by decide) (by omega)]
    unfold pagesN
    omega
/-- An entry whose key is not too long. -/
theorem kyB_lenB {s : ByteArray} (h : s.size ≤ 1000) : (kyB s).length ≤ 1008 := by
  have := vb_len s.size
  simp only [kyB, List.length_append, dataL]
  omega
theorem subE_key {xs : List En} (h : xs.all entOk = true) (k i : Nat) : ((subE xs k).getD i en0).ky.size ≤ 1000 := by
  by_cases hi : i < (subE xs k).length
  · have e : (subE xs k).getD i en0 = (subE xs k)[i] := by simp [List.getD, hi]
    rw [e]
    exact ((entOk_iff _).1 (List.all_eq_true.1 (subE_all h k) _ (List.getElem_mem hi))).1.2.1
  · have e : (subE xs k).getD i en0 = en0 := by simp [List.getD, List.getElem?_eq_none (Nat.le_of_not_lt hi)]
    rw [e]
    decide
theorem tab_idx {xs : List En} (h : xs.all entOk = true) : ∀ k, (tab xs k).2.length ≤ 2032 * k
  | 0 => by simp [tab]
  | k + 1 => by
    have ih := tab_idx h k
    have a := vb_len ((tab xs k).1.length / 64)
    have b := vb_len (subE xs k).length
    have c := kyB_lenB (subE_key h k 0)
    have d := kyB_lenB (subE_key h k ((subE xs k).length - 1))
    simp only [tab, List.length_append]
    omega
end Go.Proofs.YtgmfjninimebmaaGreatDoor
