
import Derived.Test.YtfbmplecmaebbabDoorRlS
namespace Go.Proofs.YtfbmplecmaebbabDoor
open Go.RowKit Go.Maps
set_option linter.unusedVariables false
set_option linter.unusedSimpArgs false

set_option maxRecDepth 100000 in
set_option maxHeartbeats 1000000 in
theorem specSalv_any (s : ByteArray) (k : Int) (w : World) (hs : s.size ≤ 1048576) :
    Calls Tryd.prog 10 #[.string s, .int .i64 k] w fun e w' => ∃ a cap, e = .returned (.slice a (svL s k).length cap) ∧ ResS w' w.heap.size a (svL s k) ∧ Below w.heap.size w w' := by
  obtain ⟨i0, hi, hz0, hz1, hz2⟩ := info_parts str_info
  have HDN : Hid (∀ pre, frs s 0 = pre → svL s k = (pre.filter (gd k)).map rfB) := fun pre h => by show _ = _; unfold svL; rw [h]
  have hFL := frs_len s s.size 0 (by omega)
  generalize svL s k = RL at *
  obtain ⟨A, HA⟩ : ∃ A, Hid (frs s 0 = A) := ⟨_, rfl⟩
  rw [HA.out] at hFL HDN
  go_enter Tryd.func10, Tryd.ntmps10
  go_wp2_with fail
  go_loopw [5, 6] (fun v i wr => ∃ (pre : List Fr) (p : Nat) (xs : List ByteArray), i = .int .i64 p ∧ Hid (A = pre ++ frs s p) ∧ Hid (xs = (pre.filter (gd k)).map rfB) ∧ p * 64 ≤ s.size + 63 ∧ wr.ownsRow w.heap.size 9 1 v xs.length (strL xs) ∧ Below w.heap.size w wr) (fun _ i _ => s.size - (intOf i).toNat)
  case atStart => exact ⟨[], 0, [], rfl, HA.out.symm, rfl, by omega, ownsS_lit _ _ (Nat.le_refl _), (Below.refl _ _).alloc (Nat.le_refl _) _⟩
  case round =>
    obtain ⟨pre, p, xs, rfl, hfr, hxs, hp64, hown, hb⟩ := hrel
    have hbs := hb.size
    by_cases hp : p * 64 < s.size
    · have hp' : (p : Int) * 64 < s.size := by omega
      have hm := frs_more hp
      have hN : Hid ((rf s p).isSome = true → nx s p = rfN (rf s p) ∧ rfN (rf s p) * 64 ≤ s.size ∧ p + 1 ≤ nx s p) := fun h => ⟨(nx_some h).1, (nx_some h).2, nx_gt s p⟩
      have hNN : Hid ((rf s p).isSome = false → nx s p = p + 1) := fun h => nx_none h
      have HR : Hid (∀ w, Calls Tryd.prog 12 #[.string s, .int .i64 p] w fun e w' => e = .returned (rfV (rf s p)) ∧ Below w.heap.size w w') := fun w => specRead_any s p w hs
      have hfr2 : Hid (A = pre ++ rf s p :: frs s (nx s p)) := by show _ = _; rw [← hm]; exact hfr.out
      have hxl : xs.length ≤ pre.length := by rw [hxs.out, List.length_map]; exact List.length_filter_le _ _
      have hlen : pre.length < s.size := by
        have := congrArg List.length hfr2.out
        simp only [List.length_append, List.length_cons] at this
        omega
      clear hm hfr
      generalize rf s p = f at *
      obtain ⟨rest, hrest⟩ : ∃ rest, Hid (rest = frs s (nx s p)) := ⟨_, rfl⟩
      rw [← hrest.out] at hfr2
      go_wp2_with fail
      refine (HR.out _).mono ?_
      rintro e w1 ⟨rfl, hb1⟩
      rw [rfV_eq]
      have hown1 := owns_below hown hb1
      have hb01 := hb.trans (hb1.mono hbs)
      have hs1 := hb01.size
      have hx1 : (w1.alloc (.cells #[.bool f.isSome, .int .i64 (rfK f : Nat), .string (rfB f), .int .i64 (rfN f : Nat)] 30)).heap[w1.heap.size]? = some (.cells #[.bool f.isSome, .int .i64 (rfK f : Nat), .string (rfB f), .int .i64 (rfN f : Nat)] 30 (0, 0)) := World.heap_alloc_new _ _
      have hb1a : Below w.heap.size w (w1.alloc (.cells #[.bool f.isSome, .int .i64 (rfK f : Nat), .string (rfB f), .int .i64 (rfN f : Nat)] 30)) := hb01.alloc hs1 _
      have hown1a : Hid (World.ownsRow (w1.alloc (.cells #[.bool f.isSome, .int .i64 (rfK f : Nat), .string (rfB f), .int .i64 (rfN f : Nat)] 30)) w.heap.size 9 1 _ xs.length (strL xs)) := hown1.alloc _
      have HBR : Hid (Below w1.heap.size w1 (w1.alloc (.cells #[.bool f.isSome, .int .i64 (rfK f : Nat), .string (rfB f), .int .i64 (rfN f : Nat)] 30))) := (Below.refl _ _).alloc (Nat.le_refl _) _
      have HC : Hid (∀ j u, [Value.string (rfB f)][j]? = some u → ((w1.alloc (.cells #[.bool f.isSome, .int .i64 (rfK f : Nat), .string (rfB f), .int .i64 (rfN f : Nat)] 30)).alloc (.cells #[.string (rfB f)] 9)).cell? ((⟨w1.heap.size + 1, 0, none⟩ : Addr).add j) = some u) := by
        have h := cell_first1 (w1.alloc (.cells #[.bool f.isSome, .int .i64 (rfK f : Nat), .string (rfB f), .int .i64 (rfN f : Nat)] 30)) (.string (rfB f)) 9
        rw [World.size_alloc] at h
        exact h
      have HBs : Hid (w.heap.size ≤ ((w1.alloc (.cells #[.bool f.isSome, .int .i64 (rfK f : Nat), .string (rfB f), .int .i64 (rfN f : Nat)] 30)).alloc (.cells #[.string (rfB f)] 9)).heap.size) := by show _ ≤ _; simp; omega
      obtain ⟨⟨x0, x1, x2, x3⟩, -⟩ := four_cells hx1
      have HLT : Hid (∀ k, Value.ownBlock _ = some k → k < w1.heap.size) := owns_lt hown1
      clear hx1 hown hb hb01 hown1
      cases hok : f.isSome with
      | false =>
        have hnx : nx s p = p + 1 := hNN.out hok
        have hgd : gd k f = false := by unfold gd; rw [hok]; rfl
        rw [hok] at x0 x1 x2 x3
        rw [hok] at hb1a hown1a
        have hnn : Hid (A = (pre ++ [f]) ++ frs s (p + 1)) := by show _ = _; rw [hfr2.out, hrest.out, hnx]; simp
        have hxn : Hid (xs = ((pre ++ [f]).filter (gd k)).map rfB) := by show _ = _; rw [hxs.out, List.filter_append]; simp [hgd]
        have HM : Hid (s.size - (p + 1) < s.size - p) := Nat.sub_lt_sub_left (Nat.lt_of_le_of_lt (Nat.le_mul_of_pos_right _ (by decide)) hp) (Nat.lt_succ_self _)
        clear HC HBs hnx hgd
        go_wp2_with fail
        refine ⟨⟨pre ++ [f], p + 1, xs, by go_num, hnn, hxn, by omega, hown1a.out, hb1a⟩, ?_⟩
        have e : ((p : Int) + 1).toNat = p + 1 := Int.toNat_natCast (p + 1)
        simp only [intOf, Int.toNat_natCast, e]
        exact HM.out
      | true =>
        have hnx := hN.out hok
        have hwr : wrap64 ((rfN f : Nat) : Int) = (rfN f : Nat) := by unfold wrap64; omega
        rw [hok] at x0 x1 x2 x3
        rw [hok] at hb1a hown1a HC HBs
        have HM : Hid (s.size - rfN f < s.size - p) := Nat.sub_lt_sub_left (Nat.lt_of_le_of_lt (Nat.le_mul_of_pos_right _ (by decide)) hp) (hnx.1 ▸ hnx.2.2)
        have hnn : Hid (A = (pre ++ [f]) ++ frs s (rfN f)) := by show _ = _; rw [hfr2.out, hrest.out, hnx.1]; simp
        have hle : Hid (rfN f * 64 ≤ s.size + 63) := Nat.le_trans hnx.2.1 (Nat.le_add_right _ _)
        by_cases hk : ((rfK f : Nat) : Int) = k
        · have hne : (((rfK f : Nat) : Int) == k) = true := by rw [hk]; simp
          have hgd : gd k f = true := by unfold gd; rw [hok, hk]; simp
          have hxn : Hid (xs ++ [rfB f] = ((pre ++ [f]).filter (gd k)).map rfB) := by show _ = _; rw [hxs.out, List.filter_append]; simp [hgd]
          have hk' := hd hk
          clear hk hgd
          have x3a : Hid (World.cell? ((w1.alloc (.cells #[.bool true, .int .i64 (rfK f : Nat), .string (rfB f), .int .i64 (rfN f : Nat)] 30)).alloc (.cells #[.string (rfB f)] 9)) ⟨w1.heap.size, 3, none⟩ = some (.int .i64 (rfN f : Nat))) := (World.grownBy_alloc _ _ none).cell x3 (by simp)
          go_wp2_with (at_builtin; refine wpList_append_own _ rfl _ _ 22 rfl w.heap.size 9 i0 _ 1 16 Tryd.underlying22 hi hz0 hz1 hz2 rfl (by decide) _ _ _ rfl (hown1a.out.alloc _) ⟨w1.heap.size + 1, 0, none⟩ 1 1 [.string (rfB f)] rfl rfl HC.out (fun x hx => by simp at hx; subst hx; rfl) (by unfold maxLen; omega) (by omega) HBs.out ?_; intro v' w8 hown8 hgrow hnil; have x3' := hgrow.cell x3a.out (fun h => absurd (HLT.out _ h.symm) (Nat.lt_irrefl _)))
          refine ⟨⟨pre ++ [f], rfN f, xs ++ [rfB f], rfl, hnn, hxn, hle.out, ?_, ?_⟩, ?_⟩
          · rw [List.length_append]
            exact (strL_snoc xs (rfB f)) ▸ hown8
          · exact (hb1a.alloc (by have := HBs.out; simp at this; simp; omega) _).grown hgrow HBs.out (owns_base hown1a.out)
          · simp only [intOf, Int.toNat_natCast]; exact HM.out
        · have hne : (((rfK f : Nat) : Int) == k) = false := by rw [beq_eq_false_iff_ne]; exact hk
          have hgd : gd k f = false := by unfold gd; rw [hok, hne]; rfl
          have hxn : Hid (xs = ((pre ++ [f]).filter (gd k)).map rfB) := by show _ = _; rw [hxs.out, List.filter_append]; simp [hgd]
          have hk' := hd hk
          clear hk hgd HC HBs
          go_wp2_with fail
          refine ⟨⟨pre ++ [f], rfN f, xs, rfl, hnn, hxn, hle.out, hown1a.out, hb1a⟩, ?_⟩
          simp only [intOf, Int.toNat_natCast]; exact HM.out
    · have hp' : ¬ (p : Int) * 64 < s.size := by omega
      have hRL : RL = xs := (HDN.out pre (by rw [hfr.out, frs_end hp, List.append_nil])).trans hxs.out.symm
      subst hRL
      obtain ⟨-, a, cap, rfl, hres⟩ := resS_of_owns hown
      clear hown
      go_wp2_with fail
      go_ret
      first | exact ⟨a, cap, rfl, hres, hb⟩ | exact ⟨a, ⟨cap, rfl⟩, hres, hb⟩
end Go.Proofs.YtfbmplecmaebbabDoor
