
import Derived.Test.YtigpplcecbgmaaeApH
namespace Go.Proofs.Ytigpplcecbgmaae
open Go.RowKit Go.Maps
set_option linter.unusedVariables false
set_option linter.unusedSimpArgs false

/-- Whether references may come one after the other. -/
def okAll (qs : List Tr) : List Tr → Bool
  | [] => true
  | x :: xs => okPut qs x && okAll (qs ++ [x]) xs
theorem Cat.alloc {w : World} {B g b : Nat} {qs : List Tr} (h : Cat w B g b qs) (o : Obj) : Cat (w.alloc o) B g b qs := by
  obtain ⟨tv, D, h1, h2, h3, h4⟩ := h
  exact ⟨tv, D, (Below.heap_alloc _ _ _ (heap_lt h1)).trans h1, h2.alloc o, h3, h4.alloc o⟩
theorem dropT_cons (xs : List Tr) (k : Nat) (h : k < xs.length) : xs.drop k = xs.getD k tr0 :: xs.drop (k + 1) := by
  rw [show xs.getD k tr0 = xs[k] by simp [List.getD, h]]
  exact List.drop_eq_getElem_cons h

set_option maxRecDepth 100000 in
set_option maxHeartbeats 1000000 in
theorem allPut_any (B0 B g b : Nat) (qs xs : List Tr) (a : Option Addr) (c : Nat) (w0 w : World) (ht : LieT w0 a xs) (hb0 : Below w0.heap.size w0 w) (hs0 : w0.heap.size ≤ B0) (hc : Cat w B g b qs) (h1 : B0 ≤ g) (h2 : B0 ≤ b) (h3 : g < B) (h4 : b < B) (h5 : B ≤ w.heap.size) (hw : ∀ t ∈ xs, wfI t.nu) (hl : qs.length + xs.length ≤ 2000) :
    Calls Try.prog 41 #[.slice a xs.length c, .func (.func 42) #[.pointer (some ⟨g, 0, none⟩)] #[]] w fun e w' => e = .returned (.bool (okAll qs xs)) ∧ Below B0 w w' ∧ KeepX g b w w' ∧ (okAll qs xs = true → Cat w' B g b (qs ++ xs)) := by
  have HT : Hid (okAll qs xs = okAll (qs ++ xs.take 0) (xs.drop 0)) := by show _ = _; simp
  have HW := hd hw
  clear hw
  generalize okAll qs xs = R at *
  go_enter Try.func41, Try.ntmps41
  go_wp2_with fail
  go_loopw [9] (fun y wr => ∃ k : Nat, y = .int .i64 k ∧ k ≤ xs.length ∧ Hid (R = okAll (qs ++ xs.take k) (xs.drop k)) ∧ Cat wr B g b (qs ++ xs.take k) ∧ Below B0 w wr ∧ KeepX g b w wr) (fun y _ => xs.length - (intOf y).toNat)
  case atStart => exact ⟨0, rfl, by omega, HT, by simpa using hc, Below.refl _ _, KeepX.of_below (Below.refl _ _)⟩
  case round =>
    obtain ⟨k, rfl, hk, HS, hcat, hb, hkx⟩ := hrel
    have hbs := hb.size
    by_cases hlt : k < xs.length
    · obtain ⟨tb, off, rfl, hbl, cA0, cA1, cA2, cA3⟩ := ht.at hlt
      have hbb := hb0.trans (hb.mono hs0)
      have c0 := (hbb.cell (p := ⟨tb, _, none⟩) hbl).trans cA0
      have c1 := (hbb.cell (p := ⟨tb, _, none⟩) hbl).trans cA1
      have c2 := (hbb.cell (p := ⟨tb, _, none⟩) hbl).trans cA2
      have c3 := (hbb.cell (p := ⟨tb, _, none⟩) hbl).trans cA3
      have hik : (k : Int) < (xs.length : Int) := by omega
      have HX := hd (HW.out (xs.getD k tr0) (by rw [show xs.getD k tr0 = xs[k] by simp [List.getD, hlt]]; exact List.getElem_mem hlt))
      have HTk : Hid (qs ++ xs.take (k + 1) = (qs ++ xs.take k) ++ [xs.getD k tr0]) := by show _ = _; rw [takeT_snoc xs k hlt, List.append_assoc]
      have HSk : Hid (R = (okPut (qs ++ xs.take k) (xs.getD k tr0) && okAll (qs ++ xs.take (k + 1)) (xs.drop (k + 1)))) := by show _ = _; rw [HS.out, dropT_cons xs k hlt, HTk.out]; rfl
      have hql : (qs ++ xs.take k).length ≤ 2000 := by rw [List.length_append, List.length_take]; omega
      have HP := hd (fun w' hc' h5' => put_any B0 B g b (qs ++ xs.take k) (xs.getD k tr0) w' hc' h1 h2 h3 h4 h5' HX.out hql)
      have HC := hd hcat
      have HB := hd hb
      clear hcat hb hbb cA0 cA1 cA2 cA3 HS
      generalize qs ++ xs.take k = Q at *
      generalize xs.getD k tr0 = f at *
      obtain ⟨fn, fl, flo, fhi⟩ := f
      dsimp only at *
      go_wp2_with fail
      refine (HP.out _ (HC.out.alloc _) (by simp; omega)).mono ?_
      rintro e w3 ⟨rfl, hb3, hx3, hc3⟩
      have HX3 := hd ((hkx.trans (KeepX.of_below ((Below.refl _ _).alloc (Nat.le_refl _) _))).trans hx3)
      clear hx3
      have HB3 := hd ((HB.out.alloc (by omega) _).trans hb3)
      cases hok : okPut Q ⟨fn, fl, flo, fhi⟩ with
      | false =>
        have hR : R = false := by rw [HSk.out, hok]; rfl
        subst hR
        go_wp2_with fail
        go_ret
        exact ⟨rfl, HB3.out, HX3.out, fun h => by cases h⟩
      | true =>
        have HS3 : Hid (R = okAll (qs ++ xs.take (k + 1)) (xs.drop (k + 1))) := by show _ = _; rw [HSk.out, hok]; rfl
        have HC3 := hd (hc3 hok)
        clear hc3
        go_wp2_with fail
        exact ⟨⟨k + 1, by simp, by omega, HS3, by rw [HTk.out]; exact HC3.out, HB3.out, HX3.out⟩, by simp only [intOf]; omega⟩
    · obtain rfl : k = xs.length := by omega
      have hik : ¬ (xs.length : Int) < (xs.length : Int) := by omega
      rw [List.take_length] at hcat
      have hR : R = true := by rw [HS.out, List.drop_length]; rfl
      subst hR
      go_wp2_with fail
      go_ret
      exact ⟨rfl, hb, hkx, hcat⟩
end Go.Proofs.Ytigpplcecbgmaae
