import Derived.Test.YtgennghhneckeaaCrX

import Derived.Maps.RangeWalk
namespace Go.Proofs.Ytgennghhneckeaa
open Go.RowKit Go.Maps
set_option linter.unusedVariables false
set_option linter.unusedSimpArgs false

theorem keyS_inv {key : Value} {kl : Lit} (h : keyOf Try.prog 9 key = some kl) : ∃ x : ByteArray, key = .string x := by
  cases key <;> simp [keyOf, Try.underlying9, mapKey] at h
  exact ⟨_, rfl⟩
theorem keyS_lit {x : ByteArray} {kl : Lit} (h : keyOf Try.prog 9 (.string x) = some kl) : kl = .string x.data.toList := by
  simp [keyOf, Try.underlying9, mapKey] at h
  exact h.2.symm
abbrev mkC (p : ByteArray × Int) : Value := contV p.1 p.2
theorem contR_mkC {v : Value} {y : DataW Unit × List MemPlace} (h : contR v = some y) : ∃ c, v = mkC c := by
  obtain ⟨z, ps⟩ := y
  obtain ⟨d, a, rfl, _⟩ := contR_inv h
  exact ⟨(d, a), rfl⟩

/-- The sizes of the files that are no longer to come. -/
def gone (left : Lit → Bool) (xs : List Fl) : Nat := ((xs.filter fun f => !left (.string f.nm.data.toList)).map fun f => f.dt.size).sum
theorem gone_none {left : Lit → Bool} {xs : List Fl} (h : ∀ f ∈ xs, left (.string f.nm.data.toList) = true) : gone left xs = 0 := by
  unfold gone
  have : (xs.filter fun f => !left (.string f.nm.data.toList)) = [] := List.filter_eq_nil_iff.2 fun f hf => by simp [h f hf]
  rw [this]
  rfl
theorem gone_all {left : Lit → Bool} {xs : List Fl} (h : ∀ kl, left kl = false) : gone left xs = datas xs := by
  unfold gone datas
  have : (xs.filter fun f => !left (.string f.nm.data.toList)) = xs := List.filter_eq_self.2 fun f hf => by simp [h]
  rw [this]
theorem gone_le (left : Lit → Bool) (xs : List Fl) : gone left xs ≤ datas xs := by
  unfold gone datas
  induction xs with
  | nil => simp
  | cons f r ih =>
    rw [List.filter_cons]
    split <;> simp <;> omega
theorem fm_cons_ne {f : Fl} {r : List Fl} {l : List UInt8} (h : l ≠ f.nm.data.toList) : fm (f :: r) l = fm r l := by
  simp only [fm]
  cases fm r l <;> simp [h]
theorem gone_step {left : Lit → Bool} {xs : List Fl} {l : List UInt8} {x : ByteArray × Int} (hr : RiseP xs) (hx : fm xs l = some x) (hl : left (.string l) = true) :
    gone (fun z => left z && !z.sameKey (.string l)) xs = gone left xs + x.1.size := by
  induction xs with
  | nil => cases hx
  | cons f r ih =>
    obtain ⟨h1, h2⟩ := List.pairwise_cons.1 hr
    unfold gone
    rw [List.filter_cons, List.filter_cons]
    by_cases he : l = f.nm.data.toList
    · have hnone : ∀ g ∈ r, g.nm.data.toList ≠ l := fun g hg e => by
        have := h1 g hg
        unfold lessB at this
        rw [ByteArray.toList_eq, ByteArray.toList_eq, e, he, less_irrefl] at this
        cases this
      have hfr : fm r l = none := by
        cases hm : fm r l with
        | none => rfl
        | some y =>
          have : l ∈ nms r := mem_fm.2 (by rw [hm]; rfl)
          obtain ⟨g, hg, e⟩ := List.mem_map.1 this
          exact absurd e (hnone g hg)
      have hxe : x = (f.dt, f.sy) := by
        simp only [fm, hfr] at hx
        rw [if_pos he] at hx
        cases hx
        rfl
      have hsame : (r.filter fun f => !(left (.string f.nm.data.toList) && !(Lit.string f.nm.data.toList).sameKey (.string l))) = r.filter fun f => !left (.string f.nm.data.toList) := by
        refine List.filter_congr fun g hg => ?_
        have : (Lit.string g.nm.data.toList).sameKey (.string l) = false := by simp [Lit.sameKey, hnone g hg]
        rw [this]
        simp
      rw [hsame]
      rw [← he, hl, hxe]
      simp [Lit.sameKey]
      omega
    · have hx' : fm r l = some x := by rw [← fm_cons_ne (f := f) he]; exact hx
      have ih' := ih h2 hx'
      unfold gone at ih'
      have : (Lit.string f.nm.data.toList).sameKey (.string l) = false := by simp [Lit.sameKey]; exact fun e => he e.symm
      simp only [this, Bool.not_false, Bool.and_true]
      split
      · simp only [List.map_cons, List.sum_cons]
        rw [ih']
        omega
      · exact ih'

theorem ranges_blocks {w w' : World} {b r n : Nat} {D : DataW Unit} {left : Lit → Bool} {cnt : Nat} (h : w.ranges Try.prog 9 contR b r n D left cnt) (hb : w'.heap[b]? = w.heap[b]?) (hr : w'.heap[r]? = w.heap[r]?) : w'.ranges Try.prog 9 contR b r n D left cnt := by
  obtain ⟨es, clock, since, seen, c0, h1, h2, h3, h4, h5, h6⟩ := h
  exact ⟨es, clock, since, seen, c0, hb.trans h1, h2, h3, h4, hr.trans h5, h6⟩

set_option maxRecDepth 100000 in
set_option maxHeartbeats 1000000 in
theorem total_any (g mb : Nat) (l0 l4 q fu : Int) (xs : List Fl) (w : World) (h : Ob w g l0 l4 mb q fu) (hd : Dir w mb xs.length (fm xs)) (hr : Rise xs) (hdt : datas xs ≤ 1048576) :
    Calls Try.prog 38 #[.pointer (some ⟨g, 0, none⟩)] w fun e w' => e = .returned (.int .i64 (datas xs)) ∧ Below w.heap.size w w' := by
  obtain ⟨c6, c7, c8, z8⟩ := h.cells
  obtain ⟨D, hown, hsize, hm⟩ := hd
  have hml := hown.lt
  have HM : Hid _ := hm
  clear hm h c7 c8 z8
  go_enter Try.func38, Try.ntmps38
  go_wp2_with (first | (at_range; refine wpList_range_own _ rfl _ 76 rfl 9 80 keyed Try.underlying76 _ mb _ D rfl hown ?_; intro w0 hrg0 hg0 hs0) | go_in)
  go_frame
  have hlow : ∀ f ∈ xs, has D (.string f.nm.data.toList) = true := fun f hf => by
    have h1 : f.nm.data.toList ∈ nms xs := List.mem_map.2 ⟨f, hf, rfl⟩
    rw [mem_fm] at h1
    obtain ⟨x, hx⟩ := Option.isSome_iff_exists.1 h1
    exact ((HM.out _).1 x hx).1
  go_loopw [3] (fun v wr => ∃ (left : Lit → Bool) (cnt : Nat), wr.ranges Try.prog 9 contR mb w.heap.size xs.length D left cnt ∧ (∀ kl, left kl = true → has D kl = true) ∧ v = .int .i64 (gone left xs : Nat) ∧ Below w.heap.size w wr) (fun _ wr => wr.rangeLeft mb w.heap.size)
  case atStart => exact ⟨_, _, hrg0, fun _ h => h, by rw [gone_none hlow]; rfl, (Below.refl _ _).grown hg0 (Nat.le_refl _) (fun k e => by cases e)⟩
  case round =>
    obtain ⟨left, cnt, hrg, hleft, rfl, hb⟩ := hrel
    have hbs := hb.size
    have hgl := gone_le left xs
    have hrl := hrg.lt
    go_wp2_with (first | (at_next; refine wpList_next_ranges _ rfl _ rfl 9 keyed contR Value.string mkC (fun _ _ => keyS_inv) (fun _ _ => contR_mkC) mb w.heap.size xs.length D left cnt rfl hrg ?_ ?_) | go_in)
    · intro hc0 hl0
      have HG : Hid (gone left xs = datas xs) := gone_all hl0
      clear hc0 hl0
      go_wp2
      go_ret
      exact ⟨ret_int (by rw [HG.out]), hb⟩
    · intro x c0 c1 kl y1 y2 w2 cnt2 hkey hlk hv hat hrg2 hlt hg2 hs2 hen
      obtain rfl := keyS_lit hkey
      have HF : Hid (fm xs x.data.toList = some (c0, c1)) := by
        show _ = _
        have e1 : y1 = contD c0 c1 := by
          rw [contR_mk] at hv
          cases hv
          rfl
        cases hx : fm xs x.data.toList with
        | none =>
          have := (HM.out x.data.toList).2 hx
          rw [hleft _ hlk] at this
          cases this
        | some p =>
          have e2 := ((HM.out x.data.toList).1 p hx).2 y1
          rw [hat, e1] at e2
          obtain ⟨e3, e4⟩ := contD_inj e2
          rw [e3, e4]
      have HS : Hid (gone (fun z => left z && !z.sameKey (.string x.data.toList)) xs = gone left xs + c0.size) := gone_step (rise_iff.1 hr) HF.out hlk
      have hgl2 := gone_le (fun z => left z && !z.sameKey (.string x.data.toList)) xs
      rw [HS.out] at hgl2
      have hleft2 : Hid (∀ k, (left k && !k.sameKey (.string x.data.toList)) = true → has D k = true) := fun k hk => hleft k (by simp at hk; exact hk.1)
      have hb2 : Below w.heap.size w w2 := hb.grown hg2 hbs (fun k e => by cases e; exact Nat.le_refl _)
      have HL : Hid (w2.rangeLeft mb w.heap.size < wr.rangeLeft mb w.heap.size) := by show _ < _; rw [hrg2.left_eq, hrg.left_eq]; exact hlt
      have HRG : Hid (w2.ranges Try.prog 9 contR mb w.heap.size xs.length D (fun z => left z && !z.sameKey (.string x.data.toList)) cnt2) := hrg2
      have hr2 : w.heap.size < w2.heap.size := by omega
      clear hv hat hlk hkey hrg2 hlt hg2 hrg hleft hown hlow hrg0 hg0 hs0
      go_wp2
      refine ⟨⟨_, cnt2, HRG.out.alloc _, hleft2.out, by rw [HS.out]; simp, hb2.alloc (by omega) _⟩, ?_⟩
      rw [(HRG.out.alloc _).left_eq, ← HRG.out.left_eq]
      exact HL.out
end Go.Proofs.Ytgennghhneckeaa
