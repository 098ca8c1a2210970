
import Derived.Test.YtfbmplecmaebbacDoorDrB
import Derived.Laws.Rows
import Derived.Deep.Cut
namespace Go.Proofs.YtfbmplecmaebbacDoor
open Go.RowKit Go.Maps
set_option linter.unusedVariables false
set_option linter.unusedSimpArgs false

def SmallE (xs : List En) : Prop := ∀ e ∈ xs, e.ky.size ≤ 70 ∧ e.vl.size ≤ 1000
abbrev ent0 : Obj := .cells #[.string ByteArray.empty, .int .i64 0, .int .i64 0, .string ByteArray.empty] 49

set_option maxRecDepth 100000 in
set_option maxHeartbeats 2000000 in
theorem l2DrawEntries_any (a : Option Addr) (cap : Nat) (bs : List UInt8) (p n seq : Nat) (w : World) (hx : LieB w a bs) (hl : bs.length ≤ 1048576) (hp : p ≤ 50000) (hn : n ≤ 1000) (hq : seq ≤ 100000) :
    Calls Tryd.prog 63 #[.slice a bs.length cap, .int .i64 p, .int .i64 n, .int .i64 seq] w fun e w' => ∃ (a' : Option Addr) (cap' : Nat) (xs : List En) (q : Nat), e = .returned (.tuple #[.slice a' xs.length cap', .int .i64 q]) ∧ xs.length = n ∧ q = p + 4 * n ∧ SmallE xs ∧ LieE w' a' xs ∧ Below w.heap.size w w' := by
  obtain ⟨i0, hi, hz0, hz1, hz2⟩ := info_parts iEntry_info
  have HK : Hid (∀ (w' : World) (p : Nat), Below w.heap.size w w' → p ≤ 100000 → Calls Tryd.prog 82 #[.slice a bs.length cap, .int .i64 p] w' fun e w'' => ∃ t : ByteArray, t.size ≤ 70 ∧ e = .returned (.tuple #[.string t, .int .i64 ((p + 1 : Nat) : Int)]) ∧ Below w'.heap.size w' w'') := fun w' p hb h => l2DrawKey_any a cap bs p w' (hx.below hb) hl h
  have HV : Hid (∀ (w' : World) (p : Nat), Below w.heap.size w w' → p ≤ 100000 → Calls Tryd.prog 83 #[.slice a bs.length cap, .int .i64 p] w' fun e w'' => ∃ t : ByteArray, t.size ≤ 1000 ∧ e = .returned (.tuple #[.string t, .int .i64 ((p + 2 : Nat) : Int)]) ∧ Below w'.heap.size w' w'') := fun w' p hb h => l2DrawVal_any a cap bs p w' (hx.below hb) hl h
  have HT : Hid (∀ (w' : World) (p : Nat), Below w.heap.size w w' → p ≤ 1000000 → Calls Tryd.prog 37 #[.slice a bs.length cap, .int .i64 p, .int .i64 4] w' fun e w'' => ∃ r : Nat, r < 4 ∧ e = .returned (.tuple #[.int .i64 r, .int .i64 ((p + 1 : Nat) : Int)]) ∧ Below w'.heap.size w' w'') := fun w' p hb h => l1Take_any a cap bs p 4 w' (hx.below hb) hl h (by omega) (by omega)
  generalize bs.length = len at *
  clear hx
  go_enter Tryd.func63, Tryd.ntmps63
  go_wp2_with fail
  go_loopw [1, 10, 11] (fun pp v i wr => ∃ (k : Nat) (xs : List En), k ≤ n ∧ pp = .int .i64 ((p + 4 * k : Nat) : Int) ∧ i = .int .i64 k ∧ xs.length = k ∧ Hid (SmallE xs) ∧ wr.ownsRow w.heap.size 49 4 v k (cellsE xs) ∧ Below w.heap.size w wr) (fun _ _ i _ => n - (intOf i).toNat)
  case atStart => exact ⟨0, [], Nat.zero_le _, by simp, rfl, rfl, (fun e he => by cases he), ownsE_lit _ _ (Nat.le_refl _), (Below.refl _ _).alloc (Nat.le_refl _) _⟩
  case round =>
    obtain ⟨k, xs, hk, rfl, rfl, hxl, hsm, hown, hb⟩ := hrel
    have hbs := hb.size
    by_cases hlt : k < n
    · have hlt' : (k : Int) < n := by omega
      have hb0 : Below wr.heap.size wr (wr.alloc ent0) := (Below.refl _ _).alloc (Nat.le_refl _) _
      have hx0 : (wr.alloc ent0).heap[wr.heap.size]? = some ent0 := World.heap_alloc_new _ _
      have hw0 : Below w.heap.size w (wr.alloc ent0) := hb.trans (hb0.mono hbs)
      go_wp2_with fail
      refine (HK.out _ (p + 4 * k) hw0 (by omega)).mono ?_
      rintro e w1 ⟨t, ht, rfl, hb1⟩
      have hb01 := hb0.trans (hb1.mono hb0.size)
      have hw1 := hw0.trans (hb1.mono hw0.size)
      have hx1 := (hb1.block wr.heap.size (by simp)).trans hx0
      clear hb1 hx0 hw0 hb0
      go_wp2_with fail
      refine (HV.out _ (p + 4 * k + 1) hw1 (by omega)).mono ?_
      rintro e w2 ⟨t2, ht2, rfl, hb2⟩
      have hb02 := hb01.trans (hb2.mono hb01.size)
      have hw2 := hw1.trans (hb2.mono hw1.size)
      have hx2 := (hb2.block wr.heap.size (heap_lt hx1)).trans hx1
      clear hb2 hx1 hw1 hb01
      go_wp2_with fail
      refine (HT.out _ (p + 4 * k + 1 + 2) hw2 (by omega)).mono ?_
      rintro e w3 ⟨r, hr, rfl, hb3⟩
      have hb03 := hb02.trans (hb3.mono hb02.size)
      have hw3 := hw2.trans (hb3.mono hw2.size)
      have hx3 := (hb3.block wr.heap.size (heap_lt hx2)).trans hx2
      have hlt3 := heap_lt hx3
      clear hb3 hx2 hw2 hb02
      obtain ⟨⟨x0, x1, x2, x3⟩, z0, z1, z2, z3⟩ := four_cells hx3
      have EP : Hid ((p : Int) + 4 * k + 1 + 2 + 1 = ((p + 4 * (k + 1) : Nat) : Int)) := by show _ = _; omega
      have hw3s := hw3.size
      go_upto_region 12 with fail
      have hx4 : ((((w3.setCell ⟨wr.heap.size, 0, none⟩ (.string t)).setCell ⟨wr.heap.size, 1, none⟩ (.int .i64 ((seq : Int) + k))).setCell ⟨wr.heap.size, 2, none⟩ (.int .i64 1)).setCell ⟨wr.heap.size, 3, none⟩ (.string t2)).heap[wr.heap.size]? = some (.cells #[.string t, .int .i64 ((seq : Int) + k), .int .i64 1, .string t2] 49 (0, 0)) := by
        rw [heap_setCell_same _ _ _ _ _ _ (heap_setCell_same _ _ _ _ _ _ (heap_setCell_same _ _ _ _ _ _ (heap_setCell_same _ _ _ _ _ _ hx3)))]
        rfl
      have hb4 : Below wr.heap.size wr ((((w3.setCell ⟨wr.heap.size, 0, none⟩ (.string t)).setCell ⟨wr.heap.size, 1, none⟩ (.int .i64 ((seq : Int) + k))).setCell ⟨wr.heap.size, 2, none⟩ (.int .i64 1)).setCell ⟨wr.heap.size, 3, none⟩ (.string t2)) := (((hb03.setCell (Nat.le_refl _) _).setCell (Nat.le_refl _) _).setCell (Nat.le_refl _) _).setCell (Nat.le_refl _) _
      have hz4 : w3.heap.size = ((((w3.setCell ⟨wr.heap.size, 0, none⟩ (.string t)).setCell ⟨wr.heap.size, 1, none⟩ (.int .i64 ((seq : Int) + k))).setCell ⟨wr.heap.size, 2, none⟩ (.int .i64 1)).setCell ⟨wr.heap.size, 3, none⟩ (.string t2)).heap.size := by simp
      generalize ((((w3.setCell ⟨wr.heap.size, 0, none⟩ (.string t)).setCell ⟨wr.heap.size, 1, none⟩ (.int .i64 ((seq : Int) + k))).setCell ⟨wr.heap.size, 2, none⟩ (.int .i64 1)).setCell ⟨wr.heap.size, 3, none⟩ (.string t2)) = w4 at *
      rw [hz4] at hw3s hlt3
      clear x0 x1 x2 x3 z0 z1 z2 z3 hx3 hz4 hb03
      obtain ⟨⟨x0, x1, x2, x3⟩, z0, z1, z2, z3⟩ := four_cells hx4
      clear hx4
      by_cases hr0 : r = 0
      · subst hr0
        have hbA : Below wr.heap.size wr ((((w4.setCell ⟨wr.heap.size, 0, none⟩ (.string t)).setCell ⟨wr.heap.size, 1, none⟩ (.int .i64 ((seq : Int) + k))).setCell ⟨wr.heap.size, 2, none⟩ (.int .i64 0)).setCell ⟨wr.heap.size, 3, none⟩ (.string ⟨#[]⟩)) := (((hb4.setCell (Nat.le_refl _) _).setCell (Nat.le_refl _) _).setCell (Nat.le_refl _) _).setCell (Nat.le_refl _) _
        have hzA : ((((w4.setCell ⟨wr.heap.size, 0, none⟩ (.string t)).setCell ⟨wr.heap.size, 1, none⟩ (.int .i64 ((seq : Int) + k))).setCell ⟨wr.heap.size, 2, none⟩ (.int .i64 0)).setCell ⟨wr.heap.size, 3, none⟩ (.string ⟨#[]⟩)).heap.size = w4.heap.size := by simp
        have HOA : Hid (World.ownsRow ((((w4.setCell ⟨wr.heap.size, 0, none⟩ (.string t)).setCell ⟨wr.heap.size, 1, none⟩ (.int .i64 ((seq : Int) + k))).setCell ⟨wr.heap.size, 2, none⟩ (.int .i64 0)).setCell ⟨wr.heap.size, 3, none⟩ (.string ⟨#[]⟩)) w.heap.size 49 4 _ k (cellsE xs)) := owns_below hown hbA
        have HC : Hid (∀ j u, [Value.string t, .int .i64 ((seq : Int) + k), .int .i64 0, .string ⟨#[]⟩][j]? = some u → (((((w4.setCell ⟨wr.heap.size, 0, none⟩ (.string t)).setCell ⟨wr.heap.size, 1, none⟩ (.int .i64 ((seq : Int) + k))).setCell ⟨wr.heap.size, 2, none⟩ (.int .i64 0)).setCell ⟨wr.heap.size, 3, none⟩ (.string ⟨#[]⟩)).alloc (.cells #[.string t, .int .i64 ((seq : Int) + k), .int .i64 0, .string ⟨#[]⟩] 49)).cell? ((⟨w4.heap.size, 0, none⟩ : Addr).add j) = some u) := by
          have h := cell_first4 ((((w4.setCell ⟨wr.heap.size, 0, none⟩ (.string t)).setCell ⟨wr.heap.size, 1, none⟩ (.int .i64 ((seq : Int) + k))).setCell ⟨wr.heap.size, 2, none⟩ (.int .i64 0)).setCell ⟨wr.heap.size, 3, none⟩ (.string ⟨#[]⟩)) (.string t) (.int .i64 ((seq : Int) + k)) (.int .i64 0) (.string ⟨#[]⟩) 49
          rw [hzA] at h
          exact h
        have HBs : Hid (w.heap.size ≤ (((((w4.setCell ⟨wr.heap.size, 0, none⟩ (.string t)).setCell ⟨wr.heap.size, 1, none⟩ (.int .i64 ((seq : Int) + k))).setCell ⟨wr.heap.size, 2, none⟩ (.int .i64 0)).setCell ⟨wr.heap.size, 3, none⟩ (.string ⟨#[]⟩)).alloc (.cells #[.string t, .int .i64 ((seq : Int) + k), .int .i64 0, .string ⟨#[]⟩] 49)).heap.size) := by show _ ≤ _; simp; omega
        clear hzA
        go_wp2_with (at_builtin; refine wpList_append_own _ rfl _ _ 25 rfl w.heap.size 49 i0 _ 4 48 Tryd.underlying25 hi hz0 hz1 hz2 rfl (by decide) _ _ _ rfl (HOA.out.alloc _) ⟨w4.heap.size, 0, none⟩ 1 1 [.string t, .int .i64 ((seq : Int) + k), .int .i64 0, .string ⟨#[]⟩] rfl rfl HC.out (fun x hx => by simp at hx; rcases hx with rfl | rfl | rfl | rfl <;> rfl) (by unfold maxLen; omega) (by omega) HBs.out ?_; intro v' w8 hown8 hgrow hnil)
        refine ⟨⟨k + 1, xs ++ [⟨t, (seq : Int) + k, 0, ⟨#[]⟩⟩], by omega, by first | rfl | (rw [EP.out]), by go_num, by simp [hxl], ?_, ?_, ?_⟩, by simp only [intOf]; omega⟩
        · intro e he
          rcases List.mem_append.1 he with h | h
          · exact hsm.out e h
          · rw [List.mem_singleton.1 h]; exact ⟨ht, by first | exact ht2 | exact Nat.zero_le _⟩
        · rw [cellsE_snoc]; exact hown8
        · exact ((hb.trans (hbA.mono hbs)).alloc (by first | omega | (simp; omega)) _).grown hgrow HBs.out (owns_base hown)
      · have hr0' : ¬ (r : Int) = 0 := by omega
        have hbA := hb4
        have hzA : w4.heap.size = w4.heap.size := rfl
        have HOA : Hid (World.ownsRow w4 w.heap.size 49 4 _ k (cellsE xs)) := owns_below hown hbA
        have HC : Hid (∀ j u, [Value.string t, .int .i64 ((seq : Int) + k), .int .i64 1, .string t2][j]? = some u → (w4.alloc (.cells #[.string t, .int .i64 ((seq : Int) + k), .int .i64 1, .string t2] 49)).cell? ((⟨w4.heap.size, 0, none⟩ : Addr).add j) = some u) := by
          have h := cell_first4 w4 (.string t) (.int .i64 ((seq : Int) + k)) (.int .i64 1) (.string t2) 49
          rw [hzA] at h
          exact h
        have HBs : Hid (w.heap.size ≤ (w4.alloc (.cells #[.string t, .int .i64 ((seq : Int) + k), .int .i64 1, .string t2] 49)).heap.size) := by show _ ≤ _; simp; omega
        clear hzA
        go_wp2_with (at_builtin; refine wpList_append_own _ rfl _ _ 25 rfl w.heap.size 49 i0 _ 4 48 Tryd.underlying25 hi hz0 hz1 hz2 rfl (by decide) _ _ _ rfl (HOA.out.alloc _) ⟨w4.heap.size, 0, none⟩ 1 1 [.string t, .int .i64 ((seq : Int) + k), .int .i64 1, .string t2] rfl rfl HC.out (fun x hx => by simp at hx; rcases hx with rfl | rfl | rfl | rfl <;> rfl) (by unfold maxLen; omega) (by omega) HBs.out ?_; intro v' w8 hown8 hgrow hnil)
        refine ⟨⟨k + 1, xs ++ [⟨t, (seq : Int) + k, 1, t2⟩], by omega, by first | rfl | (rw [EP.out]), by go_num, by simp [hxl], ?_, ?_, ?_⟩, by simp only [intOf]; omega⟩
        · intro e he
          rcases List.mem_append.1 he with h | h
          · exact hsm.out e h
          · rw [List.mem_singleton.1 h]; exact ⟨ht, by first | exact ht2 | exact Nat.zero_le _⟩
        · rw [cellsE_snoc]; exact hown8
        · exact ((hb.trans (hbA.mono hbs)).alloc (by first | omega | (simp; omega)) _).grown hgrow HBs.out (owns_base hown)
    · have hlt' : ¬ (k : Int) < n := by omega
      have hkn : k = n := by omega
      subst hkn
      obtain ⟨-, a', cap', rfl, hlie⟩ := lieE_of_owns hown
      clear hown
      go_wp2_with fail
      go_ret2
      first | exact ⟨a', cap', xs, p + 4 * k, by rw [hxl]; rfl, hxl, rfl, hsm.out, hlie, hb⟩ | exact ⟨a', ⟨cap', xs, p + 4 * k, by rw [hxl]; rfl, hxl, rfl, hsm.out, hlie, hb⟩⟩
end Go.Proofs.YtfbmplecmaebbacDoor
