import Derived.Test.YtgennghhneckeaaSyY

namespace Go.Proofs.Ytgennghhneckeaa
open Go.RowKit Go.Maps
set_option linter.unusedVariables false
set_option linter.unusedSimpArgs false

theorem vld_mk {xs : List Fl} {q fu : Int} (h1 : hdOk xs.length q fu = true) (h2 : ∀ j, j < xs.length → okAt xs j = true) (h3 : datas xs ≤ 1048576) : vldB xs q fu = true := by
  unfold vldB
  rw [h1, all_full h2, decide_eq_true h3]
  rfl
theorem lessB_irrefl (a : ByteArray) : lessB a a = false := less_irrefl _
theorem lessB_asymm {a b : ByteArray} (h : lessB a b = true) : lessB b a = false := by
  cases h2 : lessB b a with
  | false => rfl
  | true =>
    have := lessB_trans h h2
    rw [lessB_irrefl] at this
    cases this
theorem lessB_ne {a b : ByteArray} (h : lessB a b = true) : a.data.toList ≠ b.data.toList := fun e => by
  have e2 : a = b := by
    cases a; cases b
    simpa using e
  rw [e2, lessB_irrefl] at h
  cases h
theorem wo_all {xs : List Fl} {s : ByteArray} (h : ∀ g ∈ xs, lessB s g.nm = true) : wo xs s = xs := by
  unfold wo
  rw [List.filter_eq_self]
  intro g hg
  rw [name_iff]
  have := lessB_ne (h g hg)
  simp [this]
/-- A file put in the place of the one that has its name. -/
theorem wi_set : ∀ {xs : List Fl} {i : Nat} {g : Fl}, RiseP xs → i < xs.length → g.nm = (xs.getD i fl0).nm → wi xs g = xs.set i g
  | [], i, g, _, hi, _ => absurd hi (by simp)
  | x :: r, 0, g, hr, hi, hn => by
    obtain ⟨h1, h2⟩ := List.pairwise_cons.1 hr
    have hn' : g.nm = x.nm := hn
    have e1 : wo (x :: r) g.nm = r := by
      have hx : (x.nm.toList == g.nm.toList) = true := by rw [hn']; simp
      have : wo (x :: r) g.nm = wo r g.nm := by unfold wo; rw [List.filter_cons]; simp [hx]
      rw [this]
      exact wo_all (fun y hy => by rw [hn']; exact h1 y hy)
    unfold wi
    rw [e1]
    cases r with
    | nil => rfl
    | cons y r' =>
      have : lessB g.nm y.nm = true := by rw [hn']; exact h1 y (by simp)
      show ins (y :: r') g = _
      unfold ins
      rw [if_pos this]
      rfl
  | x :: r, i + 1, g, hr, hi, hn => by
    obtain ⟨h1, h2⟩ := List.pairwise_cons.1 hr
    have hi' : i < r.length := by simpa using hi
    have hn' : g.nm = (r.getD i fl0).nm := by simpa using hn
    have hmem : r.getD i fl0 ∈ r := by
      rw [List.getD_eq_getElem?_getD, List.getElem?_eq_getElem hi']
      exact List.getElem_mem hi'
    have hl : lessB x.nm g.nm = true := by rw [hn']; exact h1 _ hmem
    have ih := wi_set h2 hi' hn'
    have e1 : wo (x :: r) g.nm = x :: wo r g.nm := by
      have hx : (x.nm.toList == g.nm.toList) = false := by
        rw [name_iff]
        have := lessB_ne hl
        exact decide_eq_false (fun e => this e.symm)
      unfold wo
      rw [List.filter_cons]
      simp [hx]
    unfold wi at ih ⊢
    rw [e1]
    show ins (x :: wo r g.nm) g = x :: r.set i g
    unfold ins
    rw [if_neg (by rw [lessB_asymm hl]; simp), ih]
theorem set_getD (xs : List Fl) (i j : Nat) (g : Fl) (hi : i < xs.length) : (xs.set i g).getD j fl0 = if j = i then g else xs.getD j fl0 := by
  rw [List.getD_eq_getElem?_getD, List.getD_eq_getElem?_getD, List.getElem?_set]
  by_cases h : i = j
  · subst h
    simp [hi]
  · rw [if_neg h, if_neg (fun e => h e.symm)]
theorem datas_set : ∀ (xs : List Fl) (i : Nat) (g : Fl), i < xs.length → datas (xs.set i g) + (xs.getD i fl0).dt.size = datas xs + g.dt.size
  | [], i, g, hi => absurd hi (by simp)
  | x :: r, 0, g, hi => by
    simp [datas]
    omega
  | x :: r, i + 1, g, hi => by
    have ih := datas_set r i g (by simpa using hi)
    simp [datas] at ih ⊢
    omega
theorem fmAt : ∀ {xs : List Fl} {i : Nat}, RiseP xs → i < xs.length → fm xs (xs.getD i fl0).nm.data.toList = some ((xs.getD i fl0).dt, (xs.getD i fl0).sy)
  | [], i, _, hi => absurd hi (by simp)
  | x :: r, 0, hr, hi => by
    obtain ⟨h1, h2⟩ := List.pairwise_cons.1 hr
    have e : fm r x.nm.data.toList = none := fm_none (fun j hj => by
      have hmem : r.getD j fl0 ∈ r := by
        rw [List.getD_eq_getElem?_getD, List.getElem?_eq_getElem hj]
        exact List.getElem_mem hj
      exact fun e => lessB_ne (h1 _ hmem) e.symm)
    show fm (x :: r) x.nm.data.toList = some (x.dt, x.sy)
    simp [fm, e]
  | x :: r, i + 1, hr, hi => by
    obtain ⟨h1, h2⟩ := List.pairwise_cons.1 hr
    have ih := fmAt (i := i) h2 (by simpa using hi)
    show fm (x :: r) (r.getD i fl0).nm.data.toList = some ((r.getD i fl0).dt, (r.getD i fl0).sy)
    simp only [fm]
    rw [ih]
/-- A valid directory in which one file has other Data. -/
theorem set_vld {xs : List Fl} {q fu fu' : Int} {i : Nat} {g : Fl} (hv : vldB xs q fu = true) (hi : i < xs.length) (hn : g.nm = (xs.getD i fl0).nm) (h0 : 0 ≤ g.sy) (h1 : g.sy ≤ g.dt.size) (hd : datas (xs.set i g) ≤ 1048576) (hfu : -1 ≤ fu') : vldB (xs.set i g) q fu' = true := by
  obtain ⟨v1, v2, v3⟩ := vld_head hv
  have hnm : ∀ j, ((xs.set i g).getD j fl0).nm = (xs.getD j fl0).nm := fun j => by
    rw [set_getD xs i j g hi]
    split
    · rename_i h; rw [h, hn]
    · rfl
  refine vld_mk ?_ (fun j hj => ?_) hd
  · unfold hdOk at v1 ⊢
    rw [List.length_set]
    simp only [Bool.and_eq_true, decide_eq_true_eq] at v1 ⊢
    exact ⟨v1.1, hfu⟩
  · have h2 := v2 j (by simpa using hj)
    unfold okAt at h2 ⊢
    rw [hnm j, hnm (j - 1)]
    simp only [Bool.and_eq_true, decide_eq_true_eq] at h2 ⊢
    refine ⟨⟨h2.1.1, ?_⟩, h2.2⟩
    rw [set_getD xs i j g hi]
    split
    · exact ⟨h0, h1⟩
    · exact h2.1.2
theorem vld_rise {xs : List Fl} {q fu : Int} (hv : vldB xs q fu = true) : RiseP xs := rise_iff.1 (rise_of_ok (vld_head hv).2.1)
theorem vld_nm {xs : List Fl} {q fu : Int} (hv : vldB xs q fu = true) {i : Nat} (hi : i < xs.length) : nmOk (xs.getD i fl0).nm = true := by
  have h2 := (vld_head hv).2.1 i hi
  unfold okAt at h2
  simp only [Bool.and_eq_true] at h2
  exact h2.1.1

/-- After the step that syncs a file. -/
def xs1 (xs : List Fl) (i : Nat) : List Fl := xs.set i ⟨(xs.getD i fl0).nm, (xs.getD i fl0).dt, (xs.getD i fl0).dt.size⟩
/-- .. and the one that appends to it. -/
def xs2 (xs : List Fl) (i : Nat) (ss : ByteArray) : List Fl := (xs1 xs i).set i ⟨(xs.getD i fl0).nm, (xs.getD i fl0).dt ++ ss, (xs.getD i fl0).dt.size⟩
def fuelOk (fu : Int) : Prop := fu = -1 ∨ 2 ≤ fu
theorem bgn_ok {fu : Int} (h : fu ≠ 0) : bgn fu true = 0 := by unfold bgn; rw [if_neg h]; rfl
theorem at_ok {fu : Int} (h : fu ≠ 0) {s : ByteArray} (hs : nmOk s = true) {x : ByteArray × Int} : atCode fu (nmOk s) (some x) = 0 := by
  unfold atCode
  rw [hs, bgn_ok h]
  simp
theorem x1_len (xs : List Fl) (i : Nat) : (xs1 xs i).length = xs.length := by simp [xs1]
theorem x2_len (xs : List Fl) (i : Nat) (ss : ByteArray) : (xs2 xs i ss).length = xs.length := by simp [xs2, xs1]
theorem x1_at (xs : List Fl) (i j : Nat) (hi : i < xs.length) : (xs1 xs i).getD j fl0 = if j = i then ⟨(xs.getD i fl0).nm, (xs.getD i fl0).dt, (xs.getD i fl0).dt.size⟩ else xs.getD j fl0 := set_getD _ _ _ _ hi
theorem x2_at (xs : List Fl) (i j : Nat) (ss : ByteArray) (hi : i < xs.length) : (xs2 xs i ss).getD j fl0 = if j = i then ⟨(xs.getD i fl0).nm, (xs.getD i fl0).dt ++ ss, (xs.getD i fl0).dt.size⟩ else xs.getD j fl0 := by
  unfold xs2
  rw [set_getD _ _ _ _ (by rw [x1_len]; exact hi)]
  split
  · rfl
  · rename_i h
    rw [x1_at xs i j hi, if_neg h]
theorem x1_datas (xs : List Fl) (i : Nat) (hi : i < xs.length) : datas (xs1 xs i) = datas xs := by
  have := datas_set xs i ⟨(xs.getD i fl0).nm, (xs.getD i fl0).dt, (xs.getD i fl0).dt.size⟩ hi
  unfold xs1
  simp only at this
  omega
theorem x2_datas (xs : List Fl) (i : Nat) (ss : ByteArray) (hi : i < xs.length) : datas (xs2 xs i ss) = datas xs + ss.size := by
  have := datas_set (xs1 xs i) i ⟨(xs.getD i fl0).nm, (xs.getD i fl0).dt ++ ss, (xs.getD i fl0).dt.size⟩ (by rw [x1_len]; exact hi)
  rw [x1_at xs i i hi, if_pos rfl, x1_datas xs i hi] at this
  simp only [ByteArray.size_append] at this
  unfold xs2
  omega
theorem fuel_ok {fu : Int} (h : fuelOk fu) : fu ≠ 0 ∧ fuel' fu ≠ 0 ∧ -1 ≤ fuel' fu ∧ -1 ≤ fuel' (fuel' fu) := by
  unfold fuelOk at h
  unfold fuel'
  rcases h with rfl | h
  · decide
  · rw [if_pos (by omega), if_pos (by omega)]
    omega
theorem x1_vld {xs : List Fl} {q fu : Int} {i : Nat} (hv : vldB xs q fu = true) (hi : i < xs.length) (hfu : fuelOk fu) : vldB (xs1 xs i) q (fuel' fu) = true := by
  have hd := x1_datas xs i hi
  have := (vld_head hv).2.2
  exact set_vld hv hi rfl (by simp) (by simp) (by unfold xs1 at hd; omega) (fuel_ok hfu).2.2.1
/-- The step that syncs. -/
theorem sync_eq {xs : List Fl} {q fu : Int} {i : Nat} (hv : vldB xs q fu = true) (hi : i < xs.length) (hfu : fuelOk fu) : outSync xs q fu (xs.getD i fl0).nm = ⟨xs1 xs i, q, fuel' fu, 0⟩ := by
  have hr := vld_rise hv
  have e1 := fmAt hr hi
  have e2 : atCode fu (nmOk (xs.getD i fl0).nm) (fm xs (xs.getD i fl0).nm.data.toList) = 0 := by rw [e1]; exact at_ok (fuel_ok hfu).1 (vld_nm hv hi)
  have e3 : syF xs (xs.getD i fl0).nm = ⟨(xs.getD i fl0).nm, (xs.getD i fl0).dt, (xs.getD i fl0).dt.size⟩ := by unfold syF; rw [e1]; rfl
  unfold outSync
  rw [if_pos hv, e2, if_pos rfl, e3, wi_set (g := ⟨(xs.getD i fl0).nm, (xs.getD i fl0).dt, ((xs.getD i fl0).dt.size : Int)⟩) hr hi rfl]
  rfl
theorem ap_code {xs : List Fl} {q fu : Int} {i : Nat} (ss : ByteArray) (hv : vldB xs q fu = true) (hi : i < xs.length) (hfu : fuelOk fu) : apCode (xs1 xs i) q (fuel' fu) (xs.getD i fl0).nm ss = apCode xs q fu (xs.getD i fl0).nm ss := by
  have hr := vld_rise hv
  have e1 := fmAt hr hi
  have e2 : atCode fu (nmOk (xs.getD i fl0).nm) (fm xs (xs.getD i fl0).nm.data.toList) = 0 := by rw [e1]; exact at_ok (fuel_ok hfu).1 (vld_nm hv hi)
  have hv1 := x1_vld hv hi hfu
  have hi1 : i < (xs1 xs i).length := by rw [x1_len]; exact hi
  have f1 := fmAt (vld_rise hv1) hi1
  have en : ((xs1 xs i).getD i fl0).nm = (xs.getD i fl0).nm := by rw [x1_at xs i i hi, if_pos rfl]
  rw [en] at f1
  have f2 : atCode (fuel' fu) (nmOk (xs.getD i fl0).nm) (fm (xs1 xs i) (xs.getD i fl0).nm.data.toList) = 0 := by rw [f1]; exact at_ok (fuel_ok hfu).2.1 (vld_nm hv hi)
  unfold apCode
  rw [e2, f2, x1_datas xs i hi]
/-- The step that appends, where it is taken. -/
theorem ap_eq {xs : List Fl} {q fu : Int} {i : Nat} {ss : ByteArray} (hv : vldB xs q fu = true) (hi : i < xs.length) (hfu : fuelOk fu) (h0 : apCode xs q fu (xs.getD i fl0).nm ss = 0) : outAppend (xs1 xs i) q (fuel' fu) (xs.getD i fl0).nm ss = ⟨xs2 xs i ss, q, fuel' (fuel' fu), 0⟩ ∧ vldB (xs2 xs i ss) q (fuel' (fuel' fu)) = true := by
  have hc := ap_code ss hv hi hfu
  have hv1 := x1_vld hv hi hfu
  have hi1 : i < (xs1 xs i).length := by rw [x1_len]; exact hi
  have f1 := fmAt (vld_rise hv1) hi1
  have e1 : (xs1 xs i).getD i fl0 = ⟨(xs.getD i fl0).nm, (xs.getD i fl0).dt, (xs.getD i fl0).dt.size⟩ := by rw [x1_at xs i i hi, if_pos rfl]
  rw [e1] at f1
  have e3 : apF (xs1 xs i) (xs.getD i fl0).nm ss = ⟨(xs.getD i fl0).nm, (xs.getD i fl0).dt ++ ss, (xs.getD i fl0).dt.size⟩ := by
    unfold apF
    have : (fm (xs1 xs i) (xs.getD i fl0).nm.data.toList).getD (ByteArray.empty, 0) = ((xs.getD i fl0).dt, ((xs.getD i fl0).dt.size : Int)) := by rw [f1]; rfl
    rw [this]
  have hd : datas xs + ss.size ≤ 1048576 := by
    have h := h0
    unfold apCode at h
    split at h
    · rename_i hne; exact absurd h hne
    · split at h
      · cases h
      · omega
  have hd2 := x2_datas xs i ss hi
  refine ⟨?_, set_vld hv1 hi1 (by rw [e1]) (by simp) (by simp [ByteArray.size_append]; omega) (by unfold xs2 at hd2; omega) (fuel_ok hfu).2.2.2⟩
  unfold outAppend
  rw [if_pos hv1, hc, h0, if_pos rfl, e3, wi_set (vld_rise hv1) hi1 (by rw [e1])]
  rfl
theorem kb_in (ks : List Int) (i : Nat) {most : Int} (h : 0 ≤ most) : 0 ≤ kb ks i most ∧ kb ks i most ≤ most := kb_range h
theorem datas_le : ∀ (xs ys : List Fl), xs.length = ys.length → (∀ j, j < xs.length → (xs.getD j fl0).dt.size ≤ (ys.getD j fl0).dt.size) → datas xs ≤ datas ys
  | [], [], _, _ => Nat.le_refl _
  | [], _ :: _, h, _ => absurd h (by simp)
  | _ :: _, [], h, _ => absurd h (by simp)
  | x :: xs, y :: ys, h, hh => by
    have h0 := hh 0 (by simp)
    have ih := datas_le xs ys (by simpa using h) (fun j hj => by simpa using hh (j + 1) (by simpa using hj))
    simp at h0
    simp [datas] at ih ⊢
    omega
/-- What a crash leaves of a valid directory is valid. -/
theorem crs_vld {xs : List Fl} {q fu : Int} (hv : vldB xs q fu = true) (ks : List Int) : vldB (crs xs ks xs.length) q (-1) = true := by
  obtain ⟨v1, v2, v3⟩ := vld_head hv
  have hsy := sy_of_vld hv
  have hcn : ∀ j, j < xs.length → 0 ≤ crN ks j (xs.getD j fl0) ∧ crN ks j (xs.getD j fl0) ≤ (xs.getD j fl0).dt.size := fun j hj => by
    have h1 := hsy j hj
    have h2 := kb_in ks j (most := ((xs.getD j fl0).dt.size : Int) - (xs.getD j fl0).sy) (by omega)
    unfold crN
    omega
  have hat : ∀ j, j < xs.length → (crs xs ks xs.length).getD j fl0 = crFl ks j (xs.getD j fl0) := fun j hj => by rw [crs_at xs ks _ j hj, if_pos hj]
  have hsz : ∀ j, j < xs.length → ((crFl ks j (xs.getD j fl0)).dt.size : Int) = crN ks j (xs.getD j fl0) := fun j hj => by
    have := hcn j hj
    simp only [crFl, ByteArray.size_extract]
    omega
  refine vld_mk ?_ (fun j hj => ?_) ?_
  · rw [crs_length]
    unfold hdOk at v1 ⊢
    simp only [Bool.and_eq_true, decide_eq_true_eq] at v1 ⊢
    exact ⟨v1.1, by decide⟩
  · rw [crs_length] at hj
    have h2 := v2 j hj
    unfold okAt at h2 ⊢
    rw [crs_nm xs ks _ j hj, crs_nm xs ks _ (j - 1) (by omega)]
    simp only [Bool.and_eq_true, decide_eq_true_eq] at h2 ⊢
    refine ⟨⟨h2.1.1, ?_⟩, h2.2⟩
    have := hcn j hj
    have h3 := hsz j hj
    rw [hat j hj]
    refine ⟨this.1, ?_⟩
    rw [h3]
    exact Int.le_refl _
  · refine Nat.le_trans (datas_le _ xs (crs_length _ _ _) (fun j hj => ?_)) v3
    rw [crs_length] at hj
    rw [hat j hj]
    have := hcn j hj
    have h3 := hsz j hj
    omega
theorem ext_app (a b : ByteArray) (n : Nat) : (a ++ b).extract 0 (a.size + n) = a ++ b.extract 0 n := by
  apply ByteArray.ext
  simp only [ByteArray.data_extract, ByteArray.data_append]
  rw [Array.extract_append]
  have e1 : a.data.extract 0 (a.size + n) = a.data := by
    apply Array.extract_eq_self_of_le
    show a.size ≤ a.size + n
    omega
  have e2 : a.size + n - a.data.size = n := by show a.size + n - a.size = n; omega
  rw [e1, e2]
  simp
theorem ext_ext (a : ByteArray) (n m : Nat) (h : m ≤ n) : (a.extract 0 n).extract 0 m = a.extract 0 m := by
  apply ByteArray.ext
  simp only [ByteArray.data_extract, Array.extract_extract]
  congr 1
  all_goals omega
theorem ext_app_lt (a b : ByteArray) (m : Nat) (h : m ≤ a.size) : (a ++ b).extract 0 m = a.extract 0 m := by
  apply ByteArray.ext
  simp only [ByteArray.data_extract, ByteArray.data_append]
  rw [Array.extract_append]
  have : m - a.data.size = 0 := by show m - a.size = 0; omega
  rw [this]
  simp
/-- What is found after all that. -/
theorem crash_find {xs : List Fl} {q fu : Int} {i : Nat} {ss : ByteArray} (ks : List Int) (hv : vldB xs q fu = true) (hi : i < xs.length) (hv2 : vldB (xs2 xs i ss) q (fuel' (fuel' fu)) = true) (hk : i < ks.length) :
    findV (crs (xs2 xs i ss) ks (xs2 xs i ss).length) q (-1) (xs.getD i fl0).nm = ((xs.getD i fl0).dt ++ ss.extract 0 (max 0 (min (ks.getD i 0) ss.size)).toNat, true) ∧
    ∀ j, j < xs.length → ∃ d : ByteArray, findV (crs (xs2 xs i ss) ks (xs2 xs i ss).length) q (-1) (xs.getD j fl0).nm = (d, true) ∧ 0 ≤ (xs.getD j fl0).sy ∧ (xs.getD j fl0).sy ≤ (xs.getD j fl0).dt.size ∧ (xs.getD j fl0).sy ≤ d.size ∧ d.size ≤ 1048576 ∧ d.extract 0 (xs.getD j fl0).sy.toNat = (xs.getD j fl0).dt.extract 0 (xs.getD j fl0).sy.toNat := by
  have hvc := crs_vld hv2 ks
  have hrc := vld_rise hvc
  have hdc := (vld_head hvc).2.2
  have hat : ∀ j, j < xs.length → (crs (xs2 xs i ss) ks (xs2 xs i ss).length).getD j fl0 = crFl ks j ((xs2 xs i ss).getD j fl0) := fun j hj => by
    have hj2 : j < (xs2 xs i ss).length := by rw [x2_len]; exact hj
    rw [crs_at _ ks _ j hj2, if_pos hj2]
  have hnm : ∀ j, j < xs.length → ((crs (xs2 xs i ss) ks (xs2 xs i ss).length).getD j fl0).nm = (xs.getD j fl0).nm := fun j hj => by
    rw [hat j hj, x2_at xs i j ss hi]
    split
    · rename_i h; rw [h]; rfl
    · rfl
  have hf : ∀ j, j < xs.length → findV (crs (xs2 xs i ss) ks (xs2 xs i ss).length) q (-1) (xs.getD j fl0).nm = ((crFl ks j ((xs2 xs i ss).getD j fl0)).dt, true) := fun j hj => by
    have h1 := fmAt hrc (i := j) (by rw [crs_length, x2_len]; exact hj)
    rw [hnm j hj, hat j hj] at h1
    unfold findV
    rw [if_pos hvc, h1]
    rfl
  refine ⟨?_, fun j hj => ?_⟩
  · rw [hf i hi, x2_at xs i i ss hi, if_pos rfl]
    simp only [crFl, crN, kb, if_pos hk, ByteArray.size_append]
    congr 1
    have e : (((xs.getD i fl0).dt.size : Int) + max 0 (min (ks.getD i 0) (((((xs.getD i fl0).dt.size + ss.size : Nat) : Int)) - ((xs.getD i fl0).dt.size : Int)))).toNat = (xs.getD i fl0).dt.size + (max 0 (min (ks.getD i 0) ss.size)).toNat := by omega
    rw [e, ext_app]
  · have hsy := sy_of_vld hv j hj
    have hd1 : (crFl ks j ((xs2 xs i ss).getD j fl0)).dt.size ≤ 1048576 := by
      have h1 := fmAt hrc (i := j) (by rw [crs_length, x2_len]; exact hj)
      rw [hat j hj] at h1
      have := fm_size h1
      simp only at this
      omega
    refine ⟨_, hf j hj, hsy.1, hsy.2, ?_, hd1, ?_⟩
    · rw [x2_at xs i j ss hi]
      split
      · rename_i h
        subst h
        have h2 := kb_in ks j (most := (((xs.getD j fl0).dt ++ ss).size : Int) - (xs.getD j fl0).dt.size) (by rw [ByteArray.size_append]; omega)
        simp only [crFl, crN, ByteArray.size_extract, ByteArray.size_append] at h2 ⊢
        omega
      · have h2 := kb_in ks j (most := ((xs.getD j fl0).dt.size : Int) - (xs.getD j fl0).sy) (by omega)
        simp only [crFl, crN, ByteArray.size_extract]
        omega
    · rw [x2_at xs i j ss hi]
      split
      · rename_i h
        subst h
        have h2 := kb_in ks j (most := (((xs.getD j fl0).dt ++ ss).size : Int) - (xs.getD j fl0).dt.size) (by rw [ByteArray.size_append]; omega)
        simp only [crFl, crN] at h2 ⊢
        rw [ext_ext _ _ _ (by omega), ext_app_lt _ _ _ (by omega)]
      · have h2 := kb_in ks j (most := ((xs.getD j fl0).dt.size : Int) - (xs.getD j fl0).sy) (by omega)
        simp only [crFl, crN]
        rw [ext_ext _ _ _ (by omega)]
end Go.Proofs.Ytgennghhneckeaa
