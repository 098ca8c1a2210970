import Derived.Test.YtgkhjjnhikbdaaaTaA

import Derived.Laws.Rows
import Derived.Deep.Cut
namespace Go.Proofs.Ytgkhjjnhikbdaaa
open Go.RowKit Go.Maps
set_option linter.unusedVariables false
set_option linter.unusedSimpArgs false

abbrev ent0 : Obj := .cells #[.string ByteArray.empty, .int .i64 0, .int .i64 0, .string ByteArray.empty] 40
/-- The entry that is drawn at a place. -/
def deO (bs : List UInt8) (p : Nat) (sq : Int) : En := if tk bs (p + 1 + 2) 4 = 0 then ⟨dkB (tk bs p 24), sq, 0, ⟨#[]⟩⟩ else ⟨dkB (tk bs p 24), sq, 1, dvB (tk bs (p + 1) 16) (tk bs (p + 1 + 1) 100)⟩
def deL (bs : List UInt8) (p seq : Nat) : Nat → List En
  | 0 => []
  | k + 1 => deL bs p seq k ++ [deO bs (p + 4 * k) ((seq : Int) + k)]
theorem deL_len (bs : List UInt8) (p seq : Nat) : ∀ k, (deL bs p seq k).length = k
  | 0 => rfl
  | k + 1 => by simp [deL, deL_len bs p seq k]
def SmallE (xs : List En) : Prop := ∀ e ∈ xs, e.ky.size ≤ 70 ∧ e.vl.size ≤ 1000
theorem deO_small (bs : List UInt8) (p : Nat) (sq : Int) : (deO bs p sq).ky.size ≤ 70 ∧ (deO bs p sq).vl.size ≤ 1000 := by
  unfold deO
  split
  · exact ⟨dkB_size _, Nat.zero_le _⟩
  · exact ⟨dkB_size _, dvB_size _ _ (tk_lt _ _ _ (by omega))⟩
theorem deL_small (bs : List UInt8) (p seq : Nat) : ∀ k, SmallE (deL bs p seq k)
  | 0, e, he => by cases he
  | k + 1, e, he => by
    rcases List.mem_append.1 he with h | h
    · exact deL_small bs p seq k e h
    · simp at h
      subst h
      exact deO_small bs _ _

set_option maxRecDepth 100000 in
set_option maxHeartbeats 2000000 in
theorem l2DrawEntries_de (a : Option Addr) (cap : Nat) (bs : List UInt8) (p n seq : Nat) (w : World) (hx : LieB w a bs) (hl : bs.length ≤ 1048576) (hp : p ≤ 50000) (hn : n ≤ 1000) (hq : seq ≤ 100000) :
    Calls Try.prog 27 #[.slice a bs.length cap, .int .i64 p, .int .i64 n, .int .i64 seq] w fun e w' => ∃ (a' : Option Addr) (cap' : Nat), e = .returned (.tuple #[.slice a' n cap', .int .i64 ((p + 4 * n : Nat) : Int)]) ∧ ResE w' w.heap.size a' (deL bs p seq n) ∧ Below w.heap.size w w' := by
  obtain ⟨i0, hi, hz0, hz1, hz2⟩ := info_parts iEntry_info
  have HK : Hid (∀ (w' : World) (p : Nat), Below w.heap.size w w' → p ≤ 100000 → Calls Try.prog 41 #[.slice a bs.length cap, .int .i64 p] w' fun e w'' => ∃ t : ByteArray, Hid (t = dkB (tk bs p 24)) ∧ e = .returned (.tuple #[.string t, .int .i64 ((p + 1 : Nat) : Int)]) ∧ Below w'.heap.size w' w'') := fun w' p hb h => (l2DrawKey_dk a cap bs p w' (hx.below hb) hl h).mono fun e w'' ⟨h1, h2⟩ => ⟨_, rfl, h1, h2⟩
  have HV : Hid (∀ (w' : World) (p : Nat), Below w.heap.size w w' → p ≤ 100000 → Calls Try.prog 42 #[.slice a bs.length cap, .int .i64 p] w' fun e w'' => ∃ t : ByteArray, Hid (t = dvB (tk bs p 16) (tk bs (p + 1) 100)) ∧ e = .returned (.tuple #[.string t, .int .i64 ((p + 2 : Nat) : Int)]) ∧ Below w'.heap.size w' w'') := fun w' p hb h => (l2DrawVal_dv a cap bs p w' (hx.below hb) hl h).mono fun e w'' ⟨h1, h2⟩ => ⟨_, rfl, h1, h2⟩
  have HT : Hid (∀ (w' : World) (p : Nat), Below w.heap.size w w' → p ≤ 1000000 → Calls Try.prog 26 #[.slice a bs.length cap, .int .i64 p, .int .i64 4] w' fun e w'' => ∃ r : Nat, Hid (r = tk bs p 4) ∧ e = .returned (.tuple #[.int .i64 r, .int .i64 ((p + 1 : Nat) : Int)]) ∧ Below w'.heap.size w' w'') := fun w' p hb h => (l1Take_tk a cap bs p 4 w' (hx.below hb) hl h (by omega)).mono fun e w'' ⟨h1, h2⟩ => ⟨_, rfl, h1, h2⟩
  generalize bs.length = len at *
  clear hx
  go_enter Try.func27, Try.ntmps27
  go_wp2_with fail
  go_loopw [1, 10, 11] (fun pp v i wr => ∃ (k : Nat) (xs : List En), k ≤ n ∧ pp = .int .i64 ((p + 4 * k : Nat) : Int) ∧ i = .int .i64 k ∧ xs.length = k ∧ Hid (xs = deL bs p seq k) ∧ wr.ownsRow w.heap.size 40 4 v k (cellsE xs) ∧ Below w.heap.size w wr) (fun _ _ i _ => n - (intOf i).toNat)
  case atStart => exact ⟨0, [], Nat.zero_le _, by simp, rfl, rfl, rfl, ownsE_lit _ _ (Nat.le_refl _), (Below.refl _ _).alloc (Nat.le_refl _) _⟩
  case round =>
    obtain ⟨k, xs, hk, rfl, rfl, hxl, hsm, hown, hb⟩ := hrel
    have hbs := hb.size
    by_cases hlt : k < n
    · have hlt' : (k : Int) < n := by omega
      have hb0 : Below wr.heap.size wr (wr.alloc ent0) := (Below.refl _ _).alloc (Nat.le_refl _) _
      have hx0 : (wr.alloc ent0).heap[wr.heap.size]? = some ent0 := World.heap_alloc_new _ _
      have hw0 : Below w.heap.size w (wr.alloc ent0) := hb.trans (hb0.mono hbs)
      go_wp2_with fail
      refine (HK.out _ (p + 4 * k) hw0 (by omega)).mono ?_
      rintro e w1 ⟨t, ht, rfl, hb1⟩
      have hb01 := hb0.trans (hb1.mono hb0.size)
      have hw1 := hw0.trans (hb1.mono hw0.size)
      have hx1 := (hb1.block wr.heap.size (by simp)).trans hx0
      clear hb1 hx0 hw0 hb0
      go_wp2_with fail
      refine (HV.out _ (p + 4 * k + 1) hw1 (by omega)).mono ?_
      rintro e w2 ⟨t2, ht2, rfl, hb2⟩
      have hb02 := hb01.trans (hb2.mono hb01.size)
      have hw2 := hw1.trans (hb2.mono hw1.size)
      have hx2 := (hb2.block wr.heap.size (heap_lt hx1)).trans hx1
      clear hb2 hx1 hw1 hb01
      go_wp2_with fail
      refine (HT.out _ (p + 4 * k + 1 + 2) hw2 (by omega)).mono ?_
      rintro e w3 ⟨r, hr, rfl, hb3⟩
      have hb03 := hb02.trans (hb3.mono hb02.size)
      have hw3 := hw2.trans (hb3.mono hw2.size)
      have hx3 := (hb3.block wr.heap.size (heap_lt hx2)).trans hx2
      have hlt3 := heap_lt hx3
      clear hb3 hx2 hw2 hb02
      obtain ⟨⟨x0, x1, x2, x3⟩, z0, z1, z2, z3⟩ := four_cells hx3
      have EP : Hid ((p : Int) + 4 * k + 1 + 2 + 1 = ((p + 4 * (k + 1) : Nat) : Int)) := by show _ = _; omega
      have hw3s := hw3.size
      go_upto_region 12 with fail
      have hx4 : ((((w3.setCell ⟨wr.heap.size, 0, none⟩ (.string t)).setCell ⟨wr.heap.size, 1, none⟩ (.int .i64 ((seq : Int) + k))).setCell ⟨wr.heap.size, 2, none⟩ (.int .i64 1)).setCell ⟨wr.heap.size, 3, none⟩ (.string t2)).heap[wr.heap.size]? = some (.cells #[.string t, .int .i64 ((seq : Int) + k), .int .i64 1, .string t2] 40 (0, 0)) := by
        rw [heap_setCell_same _ _ _ _ _ _ (heap_setCell_same _ _ _ _ _ _ (heap_setCell_same _ _ _ _ _ _ (heap_setCell_same _ _ _ _ _ _ hx3)))]
        rfl
      have hb4 : Below wr.heap.size wr ((((w3.setCell ⟨wr.heap.size, 0, none⟩ (.string t)).setCell ⟨wr.heap.size, 1, none⟩ (.int .i64 ((seq : Int) + k))).setCell ⟨wr.heap.size, 2, none⟩ (.int .i64 1)).setCell ⟨wr.heap.size, 3, none⟩ (.string t2)) := (((hb03.setCell (Nat.le_refl _) _).setCell (Nat.le_refl _) _).setCell (Nat.le_refl _) _).setCell (Nat.le_refl _) _
      have hz4 : w3.heap.size = ((((w3.setCell ⟨wr.heap.size, 0, none⟩ (.string t)).setCell ⟨wr.heap.size, 1, none⟩ (.int .i64 ((seq : Int) + k))).setCell ⟨wr.heap.size, 2, none⟩ (.int .i64 1)).setCell ⟨wr.heap.size, 3, none⟩ (.string t2)).heap.size := by simp
      generalize ((((w3.setCell ⟨wr.heap.size, 0, none⟩ (.string t)).setCell ⟨wr.heap.size, 1, none⟩ (.int .i64 ((seq : Int) + k))).setCell ⟨wr.heap.size, 2, none⟩ (.int .i64 1)).setCell ⟨wr.heap.size, 3, none⟩ (.string t2)) = w4 at *
      rw [hz4] at hw3s hlt3
      clear x0 x1 x2 x3 z0 z1 z2 z3 hx3 hz4 hb03
      obtain ⟨⟨x0, x1, x2, x3⟩, z0, z1, z2, z3⟩ := four_cells hx4
      clear hx4
      by_cases hr0 : r = 0
      · subst hr0
        have hbA : Below wr.heap.size wr ((((w4.setCell ⟨wr.heap.size, 0, none⟩ (.string t)).setCell ⟨wr.heap.size, 1, none⟩ (.int .i64 ((seq : Int) + k))).setCell ⟨wr.heap.size, 2, none⟩ (.int .i64 0)).setCell ⟨wr.heap.size, 3, none⟩ (.string ⟨#[]⟩)) := (((hb4.setCell (Nat.le_refl _) _).setCell (Nat.le_refl _) _).setCell (Nat.le_refl _) _).setCell (Nat.le_refl _) _
        have hzA : ((((w4.setCell ⟨wr.heap.size, 0, none⟩ (.string t)).setCell ⟨wr.heap.size, 1, none⟩ (.int .i64 ((seq : Int) + k))).setCell ⟨wr.heap.size, 2, none⟩ (.int .i64 0)).setCell ⟨wr.heap.size, 3, none⟩ (.string ⟨#[]⟩)).heap.size = w4.heap.size := by simp
        have HOA : Hid (World.ownsRow ((((w4.setCell ⟨wr.heap.size, 0, none⟩ (.string t)).setCell ⟨wr.heap.size, 1, none⟩ (.int .i64 ((seq : Int) + k))).setCell ⟨wr.heap.size, 2, none⟩ (.int .i64 0)).setCell ⟨wr.heap.size, 3, none⟩ (.string ⟨#[]⟩)) w.heap.size 40 4 _ k (cellsE xs)) := owns_below hown hbA
        have HC : Hid (∀ j u, [Value.string t, .int .i64 ((seq : Int) + k), .int .i64 0, .string ⟨#[]⟩][j]? = some u → (((((w4.setCell ⟨wr.heap.size, 0, none⟩ (.string t)).setCell ⟨wr.heap.size, 1, none⟩ (.int .i64 ((seq : Int) + k))).setCell ⟨wr.heap.size, 2, none⟩ (.int .i64 0)).setCell ⟨wr.heap.size, 3, none⟩ (.string ⟨#[]⟩)).alloc (.cells #[.string t, .int .i64 ((seq : Int) + k), .int .i64 0, .string ⟨#[]⟩] 40)).cell? ((⟨w4.heap.size, 0, none⟩ : Addr).add j) = some u) := by
          have h := cell_first4 ((((w4.setCell ⟨wr.heap.size, 0, none⟩ (.string t)).setCell ⟨wr.heap.size, 1, none⟩ (.int .i64 ((seq : Int) + k))).setCell ⟨wr.heap.size, 2, none⟩ (.int .i64 0)).setCell ⟨wr.heap.size, 3, none⟩ (.string ⟨#[]⟩)) (.string t) (.int .i64 ((seq : Int) + k)) (.int .i64 0) (.string ⟨#[]⟩) 40
          rw [hzA] at h
          exact h
        have HBs : Hid (w.heap.size ≤ (((((w4.setCell ⟨wr.heap.size, 0, none⟩ (.string t)).setCell ⟨wr.heap.size, 1, none⟩ (.int .i64 ((seq : Int) + k))).setCell ⟨wr.heap.size, 2, none⟩ (.int .i64 0)).setCell ⟨wr.heap.size, 3, none⟩ (.string ⟨#[]⟩)).alloc (.cells #[.string t, .int .i64 ((seq : Int) + k), .int .i64 0, .string ⟨#[]⟩] 40)).heap.size) := by show _ ≤ _; simp; omega
        clear hzA
        go_wp2_with (at_builtin; refine wpList_append_own _ rfl _ _ 24 rfl w.heap.size 40 i0 _ 4 48 Try.underlying24 hi hz0 hz1 hz2 rfl (by decide) _ _ _ rfl (HOA.out.alloc _) ⟨w4.heap.size, 0, none⟩ 1 1 [.string t, .int .i64 ((seq : Int) + k), .int .i64 0, .string ⟨#[]⟩] rfl rfl HC.out (fun x hx => by simp at hx; rcases hx with rfl | rfl | rfl | rfl <;> rfl) (by unfold maxLen; omega) (by omega) HBs.out ?_; intro v' w8 hown8 hgrow hnil)
        refine ⟨⟨k + 1, xs ++ [⟨t, (seq : Int) + k, 0, ⟨#[]⟩⟩], by omega, by first | rfl | (rw [EP.out]), by go_num, by simp [hxl], ?_, ?_, ?_⟩, by simp only [intOf]; omega⟩
        · show _ = deL bs p seq k ++ [deO bs (p + 4 * k) ((seq : Int) + k)]
          rw [hsm.out, ht.out]
          unfold deO
          rw [if_pos hr.out.symm]
        · rw [cellsE_snoc]; exact hown8
        · exact ((hb.trans (hbA.mono hbs)).alloc (by first | omega | (simp; omega)) _).grown hgrow HBs.out (owns_base hown)
      · have hr0' : ¬ (r : Int) = 0 := by omega
        have hbA := hb4
        have hzA : w4.heap.size = w4.heap.size := rfl
        have HOA : Hid (World.ownsRow w4 w.heap.size 40 4 _ k (cellsE xs)) := owns_below hown hbA
        have HC : Hid (∀ j u, [Value.string t, .int .i64 ((seq : Int) + k), .int .i64 1, .string t2][j]? = some u → (w4.alloc (.cells #[.string t, .int .i64 ((seq : Int) + k), .int .i64 1, .string t2] 40)).cell? ((⟨w4.heap.size, 0, none⟩ : Addr).add j) = some u) := by
          have h := cell_first4 w4 (.string t) (.int .i64 ((seq : Int) + k)) (.int .i64 1) (.string t2) 40
          rw [hzA] at h
          exact h
        have HBs : Hid (w.heap.size ≤ (w4.alloc (.cells #[.string t, .int .i64 ((seq : Int) + k), .int .i64 1, .string t2] 40)).heap.size) := by show _ ≤ _; simp; omega
        clear hzA
        go_wp2_with (at_builtin; refine wpList_append_own _ rfl _ _ 24 rfl w.heap.size 40 i0 _ 4 48 Try.underlying24 hi hz0 hz1 hz2 rfl (by decide) _ _ _ rfl (HOA.out.alloc _) ⟨w4.heap.size, 0, none⟩ 1 1 [.string t, .int .i64 ((seq : Int) + k), .int .i64 1, .string t2] rfl rfl HC.out (fun x hx => by simp at hx; rcases hx with rfl | rfl | rfl | rfl <;> rfl) (by unfold maxLen; omega) (by omega) HBs.out ?_; intro v' w8 hown8 hgrow hnil)
        refine ⟨⟨k + 1, xs ++ [⟨t, (seq : Int) + k, 1, t2⟩], by omega, by first | rfl | (rw [EP.out]), by go_num, by simp [hxl], ?_, ?_, ?_⟩, by simp only [intOf]; omega⟩
        · show _ = deL bs p seq k ++ [deO bs (p + 4 * k) ((seq : Int) + k)]
          rw [hsm.out, ht.out, ht2.out]
          unfold deO
          rw [if_neg (by rw [← hr.out]; exact hr0)]
        · rw [cellsE_snoc]; exact hown8
        · exact ((hb.trans (hbA.mono hbs)).alloc (by first | omega | (simp; omega)) _).grown hgrow HBs.out (owns_base hown)
    · have hlt' : ¬ (k : Int) < n := by omega
      have hkn : k = n := by omega
      subst hkn
      obtain ⟨-, a', cap', rfl, hlie⟩ := resE_of_owns hown
      clear hown
      go_wp2_with fail
      go_ret2
      have hlie2 : ResE wr w.heap.size a' (deL bs p seq k) := by rw [← hsm.out]; exact hlie
      first | exact ⟨a', cap', by first | rfl | (rw [hxl]; rfl), hlie2, hb⟩ | exact ⟨a', ⟨cap', by first | rfl | (rw [hxl]; rfl)⟩, hlie2, hb⟩
end Go.Proofs.Ytgkhjjnhikbdaaa
