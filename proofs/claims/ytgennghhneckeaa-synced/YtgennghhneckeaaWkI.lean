import Derived.Test.YtgennghhneckeaaWkQ
namespace Go.Proofs.Ytgennghhneckeaa
open Go.RowKit Go.Maps
set_option linter.unusedVariables false
set_option linter.unusedSimpArgs false

/-- A file put in ahead of the first one with a greater name. -/
def ins : List Fl → Fl → List Fl
  | [], f => [f]
  | x :: r, f => if lessB f.nm x.nm = true then f :: x :: r else x :: ins r f
/-- The files with one put in its place, instead of any that has its name. -/
def wi (xs : List Fl) (f : Fl) : List Fl := ins (wo xs f.nm) f

theorem ins_length (xs : List Fl) (f : Fl) : (ins xs f).length = xs.length + 1 := by
  induction xs with
  | nil => rfl
  | cons x r ih => unfold ins; split <;> simp [ih]
theorem ins_mem {xs : List Fl} {f g : Fl} (h : g ∈ ins xs f) : g = f ∨ g ∈ xs := by
  induction xs with
  | nil => simp [ins] at h; exact .inl h
  | cons x r ih =>
    unfold ins at h
    split at h
    · simpa using h
    · rcases List.mem_cons.1 h with rfl | h
      · exact .inr (by simp)
      · rcases ih h with h | h
        · exact .inl h
        · exact .inr (by simp [h])
theorem less_total {a b : ByteArray} (hne : a.data.toList ≠ b.data.toList) (h : ¬ lessB a b = true) : lessB b a = true := by
  unfold lessB at *
  rw [ByteArray.toList_eq, ByteArray.toList_eq, less_lt] at *
  have h' := List.not_lt.1 h
  exact (List.le_iff_lt_or_eq.1 h').elim id fun e => absurd e.symm hne
theorem lessB_trans {a b c : ByteArray} (h1 : lessB a b = true) (h2 : lessB b c = true) : lessB a c = true := less_trans h1 h2
theorem ins_rise {xs : List Fl} {f : Fl} (h : RiseP xs) (hf : ∀ g ∈ xs, g.nm.data.toList ≠ f.nm.data.toList) : RiseP (ins xs f) := by
  induction xs with
  | nil => simp [ins, RiseP]
  | cons x r ih =>
    obtain ⟨h1, h2⟩ := List.pairwise_cons.1 h
    unfold ins
    split
    · rename_i hl
      refine List.pairwise_cons.2 ⟨fun g hg => ?_, h⟩
      rcases List.mem_cons.1 hg with rfl | hg
      · exact hl
      · exact lessB_trans hl (h1 g hg)
    · rename_i hl
      refine List.pairwise_cons.2 ⟨fun g hg => ?_, ih h2 (fun g hg => hf g (by simp [hg]))⟩
      rcases ins_mem hg with rfl | hg
      · exact less_total (fun e => hf x (by simp) e.symm) hl
      · exact h1 g hg
theorem fm_ins {xs : List Fl} {f : Fl} (hf : fm xs f.nm.data.toList = none) : fm (ins xs f) = upd (fm xs) f.nm.data.toList (f.dt, f.sy) := by
  funext l
  induction xs with
  | nil => simp [ins, fm, upd]
  | cons x r ih =>
    have hr : fm r f.nm.data.toList = none := by
      simp only [fm] at hf
      cases h : fm r f.nm.data.toList with
      | none => rfl
      | some y => rw [h] at hf; cases hf
    have ih' := ih hr
    unfold ins
    split
    · show (match fm (x :: r) l with | some y => some y | none => if l = f.nm.data.toList then some (f.dt, f.sy) else none) = upd (fm (x :: r)) f.nm.data.toList (f.dt, f.sy) l
      unfold upd
      by_cases hl : l = f.nm.data.toList
      · rw [if_pos hl, hl, hf]
        simp
      · rw [if_neg hl, if_neg hl]
        cases fm (x :: r) l <;> rfl
    · show (match fm (ins r f) l with | some y => some y | none => if l = x.nm.data.toList then some (x.dt, x.sy) else none) = upd (fm (x :: r)) f.nm.data.toList (f.dt, f.sy) l
      rw [ih']
      unfold upd
      by_cases hl : l = f.nm.data.toList
      · rw [if_pos hl, if_pos hl]
      · rw [if_neg hl, if_neg hl]
        rfl

theorem wo_mem {xs : List Fl} {s : ByteArray} {g : Fl} (h : g ∈ wo xs s) : g ∈ xs ∧ g.nm.data.toList ≠ s.data.toList := by
  obtain ⟨h1, h2⟩ := List.mem_filter.1 h
  rw [name_iff] at h2
  refine ⟨h1, fun e => ?_⟩
  simp [e] at h2
theorem wi_rise {xs : List Fl} {f : Fl} (h : Rise xs) : Rise (wi xs f) :=
  rise_iff.2 (ins_rise (rise_iff.1 (rise_filter h _)) fun g hg => (wo_mem hg).2)
theorem wi_fm (xs : List Fl) (f : Fl) : fm (wi xs f) = upd (fm xs) f.nm.data.toList (f.dt, f.sy) := by
  have h0 : fm (wo xs f.nm) f.nm.data.toList = none := by rw [fm_wo]; simp [del]
  unfold wi
  rw [fm_ins h0, fm_wo]
  funext l
  unfold upd del
  by_cases hl : l = f.nm.data.toList
  · rw [if_pos hl, if_pos hl]
  · rw [if_neg hl, if_neg hl, if_neg hl]
theorem wo_absent {xs : List Fl} {s : ByteArray} (hf : fm xs s.data.toList = none) : wo xs s = xs := by
  refine wo_none fun g hg e => ?_
  have : s.data.toList ∈ nms xs := by
    unfold nms
    exact List.mem_map.2 ⟨g, hg, e⟩
  rw [mem_fm, hf] at this
  cases this
theorem wi_length {xs : List Fl} {f : Fl} (h : Rise xs) : (wi xs f).length = if (fm xs f.nm.data.toList).isSome = true then xs.length else xs.length + 1 := by
  unfold wi
  rw [ins_length]
  cases hm : fm xs f.nm.data.toList with
  | none => rw [wo_absent hm]; rfl
  | some x =>
    have := wo_found h (s := f.nm) (by rw [hm]; rfl)
    have hpos : 0 < xs.length := by
      cases xs with
      | nil => simp [fm] at hm
      | cons y r => simp
    simp
    omega
theorem wi_le (xs : List Fl) (f : Fl) : (wi xs f).length ≤ xs.length + 1 := by
  unfold wi
  rw [ins_length]
  have := wo_length xs f.nm
  omega
theorem wi_fits {xs : List Fl} {f : Fl} (h : Fits xs) (h1 : f.nm.size ≤ maxLen) (h2 : f.dt.size ≤ maxLen) : Fits (wi xs f) := by
  intro g hg
  rcases ins_mem hg with rfl | hg
  · exact ⟨h1, h2⟩
  · exact h g (wo_mem hg).1

/-- The loop that puts a file in: what is out so far, and whether the file is. -/
def stp (f : Fl) (p : List Fl × Bool) (x : Fl) : List Fl × Bool := if p.2 = false ∧ lessB f.nm x.nm = true then (p.1 ++ [f] ++ [x], true) else (p.1 ++ [x], p.2)
def run (f : Fl) (xs : List Fl) : List Fl × Bool := xs.foldl (stp f) ([], false)
theorem run_snoc (f : Fl) (xs : List Fl) (x : Fl) : run f (xs ++ [x]) = stp f (run f xs) x := by simp [run]
theorem foldl_done (f : Fl) (xs : List Fl) : ∀ o, xs.foldl (stp f) (o, true) = (o ++ xs, true) := by
  induction xs with
  | nil => simp
  | cons x r ih => intro o; rw [List.foldl_cons]; simp [stp, ih]
theorem foldl_ins (f : Fl) (xs : List Fl) : ∀ o, (if (xs.foldl (stp f) (o, false)).2 = true then (xs.foldl (stp f) (o, false)).1 else (xs.foldl (stp f) (o, false)).1 ++ [f]) = o ++ ins xs f := by
  induction xs with
  | nil => intro o; simp [ins]
  | cons x r ih =>
    intro o
    rw [List.foldl_cons]
    by_cases hl : lessB f.nm x.nm = true
    · have e : stp f (o, false) x = (o ++ [f] ++ [x], true) := by simp [stp, hl]
      rw [e, foldl_done]
      simp [ins, hl]
    · have e : stp f (o, false) x = (o ++ [x], false) := by simp [stp, hl]
      rw [e, ih]
      simp [ins, hl]
theorem run_ins (f : Fl) (xs : List Fl) : (if (run f xs).2 = true then (run f xs).1 else (run f xs).1 ++ [f]) = ins xs f := by
  have := foldl_ins f xs []
  rw [List.nil_append] at this
  exact this
theorem run_length (f : Fl) (xs : List Fl) : (run f xs).1.length ≤ xs.length + 1 := by
  have h := congrArg List.length (run_ins f xs)
  rw [ins_length] at h
  split at h
  · omega
  · simp at h; omega
end Go.Proofs.Ytgennghhneckeaa
namespace Go.Proofs.Ytgennghhneckeaa
open Go.RowKit Go.Maps
set_option linter.unusedVariables false
set_option linter.unusedSimpArgs false

set_option maxRecDepth 100000 in
set_option maxHeartbeats 2000000 in
theorem with_any (a : Option Addr) (cap : Nat) (xs : List Fl) (f : Fl) (w : World) (hx : Lie w a xs) (hf : Fits xs) (hfn : f.nm.size ≤ maxLen) (hlen : xs.length ≤ 1048576) :
    Calls Try.prog 27 #[.slice a xs.length cap, f.agg] w fun e w' =>
      ∃ a' cap', e = .returned (.slice a' (wi xs f).length cap') ∧ Res w' w.heap.size a' cap' (wi xs f) ∧ Below w.heap.size w w' := by
  have hb0 : Below w.heap.size w (w.alloc (.cells #[.string f.nm, .string f.dt, .int .i64 f.sy] 31)) := (Below.refl _ _).alloc (Nat.le_refl _) _
  obtain ⟨i0, hi, hz0, hz1, hz2⟩ := info_parts iFile_info
  have hfw : Fits (wo xs f.nm) := fits_filter hf _
  have hlw := wo_length xs f.nm
  have HW : Hid (wi xs f = ins (wo xs f.nm) f) := rfl
  go_enter Try.func27, Try.ntmps27
  go_wp2_with fail
  refine (without_any a cap xs f.nm _ (hx.below hb0) hlen).mono ?_
  rintro e w1 ⟨a1, cap1, rfl, hres, hb1⟩
  have hbw1 := hb0.trans (hb1.mono hb0.size)
  have hR1 := (hb1.block w.heap.size (by simp)).trans (World.heap_alloc_new _ _)
  have hsz : w.heap.size < w1.heap.size := by have := hb1.size; simp at this; omega
  have hxr := hres.lie
  clear hx hb0 hb1 hres hf
  generalize wo xs f.nm = zs at *
  obtain ⟨⟨p0, p1, p2⟩, -⟩ := three_cells hR1
  go_wp2
  go_loopw [6, 7, 8] (fun v d i wr => ∃ k : Nat, k ≤ zs.length ∧ i = .int .i64 k ∧ d = .bool (run f (zs.take k)).2 ∧ wr.ownsRow w1.heap.size 31 3 v (run f (zs.take k)).1.length (cellsF (run f (zs.take k)).1) ∧ Below w1.heap.size w1 wr) (fun _ _ i _ => zs.length - (intOf i).toNat)
  case atStart => exact ⟨0, Nat.zero_le _, rfl, rfl, owns_lit0 w1 _ _ (Nat.le_refl _), (Below.refl _ _).alloc (Nat.le_refl _) _⟩
  case round =>
    obtain ⟨k, hk, rfl, rfl, hown, hb⟩ := hrel
    by_cases hlt : k < zs.length
    · obtain ⟨b, off, rfl, hbl, y0, y1, y2⟩ := hxr.at hlt
      have hfk := hfw.at hlt
      have HS : Hid (run f (zs.take (k + 1)) = stp f (run f (zs.take k)) (zs.getD k fl0)) := by show _ = _; rw [take_snoc zs k hlt, run_snoc]
      have hrl := Nat.le_trans (run_length f (zs.take k)) (Nat.add_le_add_right (List.length_take_le k zs) 1)
      generalize zs.getD k fl0 = x at *
      generalize run f (zs.take k) = st at *
      obtain ⟨o, d⟩ := st
      dsimp only at hrl hown
      have hbs := hb.size
      have c0 := (hb.cell (p := ⟨b, _, none⟩) hbl).trans y0
      have c1 := (hb.cell (p := ⟨b, _, none⟩) hbl).trans y1
      have c2 := (hb.cell (p := ⟨b, _, none⟩) hbl).trans y2
      have q0 := (hb.cell (p := ⟨w.heap.size, 0, none⟩) hsz).trans p0
      have q1 := (hb.cell (p := ⟨w.heap.size, 1, none⟩) hsz).trans p1
      have q2 := (hb.cell (p := ⟨w.heap.size, 2, none⟩) hsz).trans p2
      have hownd : ∀ n, (wr.drewN n).ownsRow w1.heap.size 31 3 u6 o.length (cellsF o) := fun n => hown
      have hown0 := owns_base hown
      have hbw : w.heap.size < wr.heap.size := by omega
      have hbb : b < wr.heap.size := by omega
      replace hb : Hid _ := hb
      replace hownd : Hid _ := hownd
      replace hown0 : Hid _ := hown0
      replace y0 : Hid _ := y0
      replace y1 : Hid _ := y1
      replace y2 : Hid _ := y2
      clear hown
      cases d with
      | true =>
        have HE : Hid (run f (zs.take (k + 1)) = (o ++ [x], true)) := by show _ = _; rw [HS.out]; simp [stp]
        clear HS
        go_wp2_with fail
        go_quiet (fail)
        go_wp2_with (at_builtin; refine wpList_append_own _ rfl _ _ 23 rfl w1.heap.size 31 i0 _ 3 40 Try.underlying23 hi hz0 hz1 hz2 rfl (by decide) _ _ _ rfl ((hownd.out _).alloc _) ⟨wr.heap.size, 0, none⟩ 1 1 [.string x.nm, .string x.dt, .int .i64 x.sy] rfl rfl (cell_first3 _ _ _ _ _) (fun x hx => by simp at hx; rcases hx with rfl | rfl | rfl <;> rfl) (by unfold maxLen; omega) (by omega) (by simp; omega) ?_; intro v' w4 hown4 hgrow hnil)
        refine ⟨⟨k + 1, by omega, by go_num, by rw [HE.out], ?_, ?_⟩, by simp [intOf]; omega⟩
        · rw [HE.out]
          dsimp only
          rw [cellsF_snoc, List.length_append]; exact hown4
        · exact ((Below.drewN hb.out _).alloc hbs _).grown hgrow (by simp; omega) hown0.out
      | false =>
        cases hl : lessB f.nm x.nm with
        | false =>
          have HE : Hid (run f (zs.take (k + 1)) = (o ++ [x], false)) := by show _ = _; rw [HS.out]; simp [stp, hl]
          clear HS
          go_wp2_with fail
          go_quiet ((go_at_call 18; exact Calls.quiet_of (l1Less_any f.nm x.nm _ hfn hfk.1)))
          go_wp2_with (at_builtin; refine wpList_append_own _ rfl _ _ 23 rfl w1.heap.size 31 i0 _ 3 40 Try.underlying23 hi hz0 hz1 hz2 rfl (by decide) _ _ _ rfl ((hownd.out _).alloc _) ⟨wr.heap.size, 0, none⟩ 1 1 [.string x.nm, .string x.dt, .int .i64 x.sy] rfl rfl (cell_first3 _ _ _ _ _) (fun x hx => by simp at hx; rcases hx with rfl | rfl | rfl <;> rfl) (by unfold maxLen; omega) (by omega) (by simp; omega) ?_; intro v' w4 hown4 hgrow hnil)
          refine ⟨⟨k + 1, by omega, by go_num, by rw [HE.out], ?_, ?_⟩, by simp [intOf]; omega⟩
          · rw [HE.out]
            dsimp only
            rw [cellsF_snoc, List.length_append]; exact hown4
          · exact ((Below.drewN hb.out _).alloc hbs _).grown hgrow (by simp; omega) hown0.out
        | true =>
          have HE : Hid (run f (zs.take (k + 1)) = (o ++ [f] ++ [x], true)) := by show _ = _; rw [HS.out]; simp [stp, hl]
          clear HS
          go_wp2_with fail
          go_quiet ((go_at_call 18; exact Calls.quiet_of (l1Less_any f.nm x.nm _ hfn hfk.1)))
          go_wp2_with (first
            | (at_builtin; refine wpList_append_own _ rfl _ _ 23 rfl w1.heap.size 31 i0 _ 3 40 Try.underlying23 hi hz0 hz1 hz2 rfl (by decide) _ _ _ rfl (hown4'.out.alloc _) ⟨w4.heap.size, 0, none⟩ 1 1 [.string x.nm, .string x.dt, .int .i64 x.sy] rfl rfl (cell_first3 _ _ _ _ _) (fun x hx => by simp at hx; rcases hx with rfl | rfl | rfl <;> rfl) (by unfold maxLen; omega) (by omega) (by simp; omega) ?_; intro v5 w5 hown5 hgrow5 hnil5)
            | (at_builtin; refine wpList_append_own _ rfl _ _ 23 rfl w1.heap.size 31 i0 _ 3 40 Try.underlying23 hi hz0 hz1 hz2 rfl (by decide) _ _ _ rfl ((hownd.out _).alloc _) ⟨wr.heap.size, 0, none⟩ 1 1 [.string f.nm, .string f.dt, .int .i64 f.sy] rfl rfl (cell_first3 _ _ _ _ _) (fun x hx => by simp at hx; rcases hx with rfl | rfl | rfl <;> rfl) (by unfold maxLen; omega) (by omega) (by simp; omega) ?_; intro v' w4 hown4 hgrow hnil;
               have hb4 : Hid (Below w1.heap.size w1 w4) := ((Below.drewN hb.out _).alloc hbs _).grown hgrow (by simp; omega) hown0.out;
               have z0 := (hb4.out.cell (p := ⟨b, _, none⟩) hbl).trans y0.out; have z1 := (hb4.out.cell (p := ⟨b, _, none⟩) hbl).trans y1.out; have z2 := (hb4.out.cell (p := ⟨b, _, none⟩) hbl).trans y2.out;
               have hbs4 := hb4.out.size; have hbb4 : b < w4.heap.size := Nat.lt_of_lt_of_le hbl hbs4; have hown40 : Hid _ := owns_base hown4; have hown4' : Hid (w4.ownsRow w1.heap.size 31 3 v' (o.length + 1) (cellsF o ++ [.string f.nm, .string f.dt, .int .i64 f.sy])) := hown4; clear hgrow hnil hown4))
          refine ⟨⟨k + 1, by omega, by go_num, by rw [HE.out], ?_, ?_⟩, by simp [intOf]; omega⟩
          · rw [HE.out]
            dsimp only
            rw [cellsF_snoc, cellsF_snoc, List.length_append, List.length_append]; exact hown5
          · exact (hb4.out.alloc hbs4 _).grown hgrow5 (by simp; omega) hown40.out
    · obtain rfl : k = zs.length := by omega
      rw [List.take_length] at hown
      have HR := run_ins f zs
      have hrl := run_length f zs
      rw [← HW.out] at HR
      rw [List.take_length]
      generalize run f zs = st at *
      obtain ⟨o, d⟩ := st
      dsimp only at HR hown hrl ⊢
      have hbs := hb.size
      have hown0 : Hid _ := owns_base hown
      clear hk hlt
      cases d with
      | true =>
        have HY : Hid (wi xs f = o) := by show _ = _; rw [← HR, if_pos rfl]
        obtain ⟨-, a2, cap2, hv, hres⟩ := res_of_owns hown
        subst hv
        clear HR HW
        go_wp2
        go_ret
        exact ⟨a2, cap2, by rw [HY.out]; rfl, by rw [HY.out]; exact hres.base (by omega), hbw1.trans (hb.mono (by omega))⟩
      | false =>
        have HY : Hid (wi xs f = o ++ [f]) := by show _ = _; rw [← HR, if_neg (by simp)]
        clear HR HW
        have q0 := (hb.cell (p := ⟨w.heap.size, 0, none⟩) hsz).trans p0
        have q1 := (hb.cell (p := ⟨w.heap.size, 1, none⟩) hsz).trans p1
        have q2 := (hb.cell (p := ⟨w.heap.size, 2, none⟩) hsz).trans p2
        have hbw : w.heap.size < wr.heap.size := by omega
        have hown' : Hid (wr.ownsRow w1.heap.size 31 3 u6 o.length (cellsF o)) := hown
        have hbH : Hid (Below w1.heap.size w1 wr) := hb
        clear hown hb
        go_wp2_with (at_builtin; refine wpList_append_own _ rfl _ _ 23 rfl w1.heap.size 31 i0 _ 3 40 Try.underlying23 hi hz0 hz1 hz2 rfl (by decide) _ _ _ rfl (hown'.out.alloc _) ⟨wr.heap.size, 0, none⟩ 1 1 [.string f.nm, .string f.dt, .int .i64 f.sy] rfl rfl (cell_first3 _ _ _ _ _) (fun x hx => by simp at hx; rcases hx with rfl | rfl | rfl <;> rfl) (by unfold maxLen; omega) (by omega) (by simp; omega) ?_; intro v' w4 hown4 hgrow hnil; have hb4 : Hid (Below w1.heap.size w1 w4) := (hbH.out.alloc hbs _).grown hgrow (by simp; omega) hown0.out; rw [← cellsF_snoc] at hown4; obtain ⟨-, a2, cap2, hv, hres⟩ := res_of_owns hown4; subst hv; replace hres : Hid (Res _ _ _ _ _) := hres; clear hown4 hgrow hnil)
        go_ret
        exact ⟨a2, cap2, by rw [HY.out, List.length_append]; rfl, by rw [HY.out]; exact hres.out.base (by omega), hbw1.trans (hb4.out.mono (by omega))⟩
end Go.Proofs.Ytgennghhneckeaa
