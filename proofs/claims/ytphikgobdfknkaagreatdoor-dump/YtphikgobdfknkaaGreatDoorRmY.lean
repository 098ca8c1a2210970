import Derived.Test.YtphikgobdfknkaaGreatDoorApQ
namespace Go.Proofs.YtphikgobdfknkaaGreatDoor
open Go.RowKit Go.Maps
set_option linter.unusedVariables false
set_option linter.unusedSimpArgs false

theorem leftT_snocM (qs : List Tr) (ks : List Int) (x : Int) : leftT (leftT qs ks) [x] = leftT qs (ks ++ [x]) := by
  unfold leftT
  rw [List.filter_filter]
  congr 1
  funext t
  by_cases h1 : t.nu = x <;> by_cases h2 : ks.contains t.nu = true <;> simp_all
theorem takeI_snocM (ks : List Int) (k : Nat) (h : k < ks.length) : ks.take (k + 1) = ks.take k ++ [ks.getD k 0] := by
  rw [List.take_succ_eq_append_getElem h]
  simp [List.getD, h]
theorem getI_mem (ks : List Int) (k : Nat) (h : k < ks.length) : ks.getD k 0 ∈ ks := by
  rw [show ks.getD k 0 = ks[k] by simp [List.getD, h]]
  exact List.getElem_mem h
set_option maxRecDepth 100000 in
set_option maxHeartbeats 1000000 in
theorem allHas_any (B g b N M : Nat) (qs : List Tr) (ks : List Int) (d : Option Addr) (c : Nat) (w : World) (ht : LieI w d ks) (hc : Cat w B g b N M qs) (hw : ∀ x ∈ ks, wfI x) (hl : ks.length ≤ 1048576) :
    Calls Tryz.prog 91 #[.slice d ks.length c, .func (.func 92) #[.pointer (some ⟨g, 0, none⟩)] #[]] w fun e w' => e = .returned (.bool (delsOk qs ks)) ∧ w' = w := by
  obtain ⟨tv, D, hg, hown, hci, hrow, -⟩ := hc
  have HHas := hd (fun (x : Int) (hx : wfI x) => has_any g b qs.length tv 155 D x w hx hg hown)
  have HCi := hd hci.1
  have HNo : Hid (∀ j, j < ks.length → (qs.map Tr.nu).contains (ks.getD j 0) = false → delsOk qs ks = false) := fun j hj h => by
    cases h' : delsOk qs ks with
    | false => rfl
    | true =>
      have := List.all_eq_true.1 h' _ (getI_mem ks j hj)
      rw [h] at this
      cases this
  have HYes : Hid ((∀ j, j < ks.length → (qs.map Tr.nu).contains (ks.getD j 0) = true) → delsOk qs ks = true) := fun h => by
    refine List.all_eq_true.2 fun x hx => ?_
    obtain ⟨j, hj, rfl⟩ := List.mem_iff_getElem.1 hx
    have := h j hj
    rwa [show ks.getD j 0 = ks[j] by simp [List.getD, hj]] at this
  have HW := hd hw
  clear hg hown hci hrow hw
  generalize delsOk qs ks = R at *
  go_enter Tryz.func91, Tryz.ntmps91
  go_wp2_with fail
  go_loopw [9] (fun y wr => ∃ k : Nat, y = .int .i64 k ∧ k ≤ ks.length ∧ Hid (∀ j, j < k → (qs.map Tr.nu).contains (ks.getD j 0) = true) ∧ wr = w) (fun y _ => ks.length - (intOf y).toNat)
  case atStart => exact ⟨0, rfl, Nat.zero_le _, fun j hj => absurd hj (Nat.not_lt_zero _), rfl⟩
  case round =>
    obtain ⟨k, rfl, hk, HS, rfl⟩ := hrel
    by_cases hlt : k < ks.length
    · obtain ⟨tb, off, rfl, hbl, c0⟩ := ht.at hlt
      have hik : (k : Int) < (ks.length : Int) := by omega
      have HX := hd (HHas.out (ks.getD k 0) (HW.out _ (getI_mem ks k hlt)))
      have HN := hd (HNo.out k hlt)
      have HS' : Hid ((qs.map Tr.nu).contains (ks.getD k 0) = true → ∀ j, j < k + 1 → (qs.map Tr.nu).contains (ks.getD j 0) = true) := fun h j hj => by
        by_cases e : j = k
        · subst e; exact h
        · exact HS.out j (by omega)
      have hCx := HCi.out (ks.getD k 0)
      clear HS HNo HYes HHas
      generalize ks.getD k 0 = x at *
      rw [hCx] at HX
      cases hcn : (qs.map Tr.nu).contains x with
      | false =>
        rw [hcn] at HX
        have hR := HN.out hcn
        subst hR
        go_wp2_with fail
        refine HX.out.mono ?_
        rintro e w1 ⟨rfl, rfl⟩
        go_wp2_with fail
        go_ret
        exact ⟨rfl, rfl⟩
      | true =>
        rw [hcn] at HX
        have HS2 := hd (HS'.out hcn)
        go_wp2_with fail
        refine HX.out.mono ?_
        rintro e w1 ⟨rfl, rfl⟩
        go_wp2_with fail
        exact ⟨⟨k + 1, by simp, by omega, HS2, by trivial⟩, by simp only [intOf]; omega⟩
    · obtain rfl : k = ks.length := by omega
      have hik : ¬ (ks.length : Int) < (ks.length : Int) := by omega
      have hR := HYes.out HS.out
      subst hR
      go_wp2_with fail
      go_ret
      exact ⟨rfl, rfl⟩

set_option maxRecDepth 100000 in
set_option maxHeartbeats 1000000 in
theorem takeAll_any (B0 B g b N M : Nat) (qs : List Tr) (ks : List Int) (d : Option Addr) (c : Nat) (w : World) (hL : ∀ wr, Below B0 w wr → Kept N M w wr → LieI wr d ks) (hc : Cat w B g b N M qs) (h1 : B0 ≤ g) (h2 : B0 ≤ b) (h3 : g < B) (h4 : b < B) (hw : ∀ x ∈ ks, wfI x) (hwq : ∀ t ∈ qs, wfI t.nu) (hl : qs.length ≤ 2000) (hl2 : ks.length ≤ 1048576) (hM : M ≤ w.heap.size) (hgN : g < N ∨ M ≤ g) (hbN : b < N ∨ M ≤ b) :
    Calls Tryz.prog 64 #[.pointer (some ⟨g, 0, none⟩), .slice d ks.length c] w fun e w' => e = .returned (.bool (delsOk qs ks)) ∧ Below B0 w w' ∧ KeepX g b w w' ∧ Kept N M w w' ∧ (delsOk qs ks = true → ∃ qs', qs'.Perm (leftT qs ks) ∧ Cat w' B g b N M qs') := by
  have HAll := hd (allHas_any B g b N M qs ks d c w (hL w (Below.refl _ _) (Kept.refl _ _ _)) hc hw hl2)
  have HC := hd hc
  have HW := hd hw
  have HWq := hd hwq
  clear hc hw hwq
  go_enter Tryz.func64, Tryz.ntmps64
  cases hok : delsOk qs ks with
  | false =>
    rw [hok] at HAll
    go_wp2_with fail
    refine HAll.out.mono ?_
    rintro e w1 ⟨rfl, hw1⟩
    have hw1' := hw1.symm
    subst hw1'
    clear hw1
    go_wp2_with fail
    go_ret
    exact ⟨rfl, Below.refl _ _, KeepX.of_below (Below.refl _ _), Kept.refl _ _ _, fun h => by cases h⟩
  | true =>
    rw [hok] at HAll
    go_wp2_with fail
    refine HAll.out.mono ?_
    rintro e w1 ⟨rfl, hw1⟩
    have hw1' := hw1.symm
    subst hw1'
    clear hw1
    go_wp2_with fail
    go_loopw [14] (fun y wr => ∃ (k : Nat) (qs' : List Tr), y = .int .i64 k ∧ k ≤ ks.length ∧ Hid (qs'.Perm (leftT qs (ks.take k))) ∧ Cat wr B g b N M qs' ∧ Below B0 w wr ∧ KeepX g b w wr ∧ Kept N M w wr) (fun y _ => ks.length - (intOf y).toNat)
    case atStart => exact ⟨0, qs, rfl, Nat.zero_le _, by show List.Perm _ _; rw [List.take_zero, leftT_nil], HC.out, Below.refl _ _, KeepX.of_below (Below.refl _ _), Kept.refl _ _ _⟩
    case round =>
      obtain ⟨k, qs', rfl, hk, HP, hcat, hb, hkx, hkp⟩ := hrel
      have hbs := hb.size
      by_cases hlt : k < ks.length
      · obtain ⟨tb, off, rfl, hbl, c0⟩ := (hL wr hb hkp).at hlt
        have hik : (k : Int) < (ks.length : Int) := by omega
        have hsub : ∀ t ∈ qs', t ∈ qs := fun t h => (List.mem_filter.1 (HP.out.mem_iff.1 h)).1
        have hlq : qs'.length ≤ qs.length := by rw [HP.out.length_eq]; exact List.length_filter_le _ _
        have HT := hd (takeC_any B0 B g b N M qs' (ks.getD k 0) wr hcat h1 h2 h3 h4 (HW.out _ (getI_mem ks k hlt)) (fun t h => HWq.out t (hsub t h)) (by omega) (by omega) hgN hbN)
        have HP2 : Hid (∀ q2 : List Tr, q2.Perm (leftT qs' [ks.getD k 0]) → q2.Perm (leftT qs (ks.take (k + 1)))) := fun q2 h => by
          rw [takeI_snocM ks k hlt, ← leftT_snocM]
          exact h.trans (leftT_perm HP.out _)
        have HB := hd hb
        have HK := hd hkx
        have HKp := hd hkp
        have HL := hd hL
        clear hcat hb hkx hkp hL HP hsub
        generalize ks.getD k 0 = x at *
        go_wp2_with fail
        refine HT.out.mono ?_
        rintro e w2 ⟨rfl, hb2, hk2, hkp2, q2, hp2, hc2⟩
        have HE := hd (And.intro (HP2.out q2 hp2) (And.intro hc2 (And.intro (HB.out.trans hb2) (And.intro (HK.out.trans hk2) (HKp.out.trans hkp2)))))
        clear hb2 hk2 hkp2 hp2 hc2
        go_wp2_with fail
        exact ⟨⟨k + 1, q2, by simp, by omega, HE.out.1, HE.out.2.1, HE.out.2.2.1, HE.out.2.2.2.1, HE.out.2.2.2.2⟩, by simp only [intOf]; omega⟩
      · obtain rfl : k = ks.length := by omega
        have hik : ¬ (ks.length : Int) < (ks.length : Int) := by omega
        go_wp2_with fail
        go_ret
        exact ⟨rfl, hb, hkx, hkp, qs', by have h := HP.out; rwa [List.take_length] at h, hcat⟩
end Go.Proofs.YtphikgobdfknkaaGreatDoor
namespace Go.Proofs.YtphikgobdfknkaaGreatDoor
open Go.RowKit Go.Maps
set_option linter.unusedVariables false
set_option linter.unusedSimpArgs false

/-- The texts lie at a, wherever. -/
def LieS (w : World) (a : Option Addr) (xs : List ByteArray) : Prop := xs = [] ∨ ∃ g, a = some ⟨g, 0, none⟩ ∧ g < w.heap.size ∧ ∀ i, i < xs.length → w.cell? ⟨g, i, none⟩ = some (.string (xs.getD i ByteArray.empty))
theorem ResS.lie {w : World} {base : Nat} {a : Option Addr} {xs : List ByteArray} (h : ResS w base a xs) : LieS w a xs := by
  rcases h with h | ⟨g, rfl, hg, hr⟩
  · exact .inl h
  · exact .inr ⟨g, rfl, hr.lt, fun i hi => hr.at hi⟩
theorem LieS.below {w w' : World} {a : Option Addr} {xs : List ByteArray} (h : LieS w a xs) (hb : Below w.heap.size w w') : LieS w' a xs := by
  rcases h with h | ⟨g, rfl, hg, hr⟩
  · exact .inl h
  · exact .inr ⟨g, rfl, Nat.lt_of_lt_of_le hg hb.size, fun i hi => (hb.cell (p := ⟨g, i, none⟩) hg).trans (hr i hi)⟩
theorem LieS.at {w : World} {a : Option Addr} {xs : List ByteArray} (h : LieS w a xs) {i : Nat} (hi : i < xs.length) : ∃ g, a = some ⟨g, 0, none⟩ ∧ g < w.heap.size ∧ w.cell? ⟨g, i, none⟩ = some (.string (xs.getD i ByteArray.empty)) := by
  rcases h with rfl | ⟨g, rfl, hg, hr⟩
  · simp at hi
  · exact ⟨g, rfl, hg, hr i hi⟩
/-- The payloads of a manifest. -/
def pm (s : ByteArray) : List ByteArray := (rlL s 77).map rfB
theorem pm_len (s : ByteArray) : (pm s).length ≤ s.size := by unfold pm; rw [List.length_map]; exact rl_len s 77
theorem rf_size (s : ByteArray) (p : Nat) : (rfB (rf s p)).size ≤ s.size := by
  cases h : rf s p with
  | none => exact Nat.zero_le _
  | some q =>
    obtain ⟨k, l, n⟩ := q
    show l.toArray.size ≤ _
    rw [List.size_toArray]
    unfold rf rfAt at h
    simp only [Int.toNat_natCast] at h
    split at h
    · split at h
      · rename_i h1 h2
        obtain ⟨-, -, h3, -⟩ := h2
        simp only [Option.some.injEq, Prod.mk.injEq] at h
        obtain ⟨-, rfl, -⟩ := h
        have e : s.data.toList.length = s.size := len_data s
        rw [e] at h3
        rw [pay_len]
        unfold pagesN at h3
        omega
      · cases h
    · cases h
theorem pm_size (s : ByteArray) (h : s.size ≤ 1048576) : ∀ p ∈ pm s, p.size ≤ 1048576 := by
  intro p hp
  unfold pm at hp
  obtain ⟨f, hf, rfl⟩ := List.mem_map.1 hp
  have h1 : f ∈ frs s 0 := (List.takeWhile_sublist (gd 77) (l := frs s 0)).subset hf
  have key : ∀ d q, s.size - q ≤ d → ∀ f ∈ frs s q, (rfB f).size ≤ s.size := by
    intro d
    induction d with
    | zero => intro q hq f hf; rw [frs_end (by omega)] at hf; cases hf
    | succ d ih =>
      intro q hq f hf
      by_cases hp : q * 64 < s.size
      · rw [frs_more hp] at hf
        rcases List.mem_cons.1 hf with rfl | hf
        · exact rf_size s q
        · have := nx_gt s q
          exact ih (nx s q) (by omega) f hf
      · rw [frs_end hp] at hf
        cases hf
  exact Nat.le_trans (key _ 0 (Nat.le_refl _) f h1) h
/-- What the edits of a manifest give, one after the other. -/
def foldM : List Tr → Ed → List ByteArray → Option (List Tr × Ed)
  | ts, l, [] => some (ts, l)
  | ts, l, p :: ps => match decEd p with
    | none => none
    | some e => if apOk ts e = true then foldM (apS ts e) e ps else none
theorem foldM_none {ts : List Tr} {l : Ed} {p : ByteArray} {ps : List ByteArray} (h : (decEd p).isSome = false) : foldM ts l (p :: ps) = none := by
  cases h' : decEd p with
  | none => simp [foldM, h']
  | some e => rw [h'] at h; cases h
theorem edR_some {p : ByteArray} (h : (decEd p).isSome = true) : decEd p = some (edR p) := by
  cases h' : decEd p with
  | none => rw [h'] at h; cases h
  | some e => simp [edR, h']
theorem foldM_bad {ts : List Tr} {l : Ed} {p : ByteArray} {ps : List ByteArray} (h1 : (decEd p).isSome = true) (h2 : apOk ts (edR p) = false) : foldM ts l (p :: ps) = none := by
  simp [foldM, edR_some h1, h2]
theorem foldM_step {ts : List Tr} {l : Ed} {p : ByteArray} {ps : List ByteArray} (h1 : (decEd p).isSome = true) (h2 : apOk ts (edR p) = true) : foldM ts l (p :: ps) = foldM (apS ts (edR p)) (edR p) ps := by
  simp [foldM, edR_some h1, h2]
def rmO (s : ByteArray) : Option (List Tr × Ed) := if (pm s).length = 0 then none else foldM [] ed0 (pm s)
def rmT (s : ByteArray) : List Tr := ((rmO s).map Prod.fst).getD []
def rmE (s : ByteArray) : Ed := ((rmO s).map Prod.snd).getD ed0
def rmP (s : ByteArray) : Nat := if (rmO s).isSome = true then lastN (rlL s 77) else 0
theorem rm_none {s : ByteArray} (h : rmO s = none) : rmT s = [] ∧ rmE s = ed0 ∧ rmP s = 0 ∧ (rmO s).isSome = false := by simp [rmT, rmE, rmP, h]
theorem rm_some {s : ByteArray} {ts : List Tr} {l : Ed} (h : rmO s = some (ts, l)) : rmT s = ts ∧ rmE s = l ∧ rmP s = lastN (rlL s 77) ∧ (rmO s).isSome = true := by simp [rmT, rmE, rmP, h]
theorem edR_ok {p : ByteArray} (h : (decEd p).isSome = true) : edOk (edR p) = true := by
  have h1 := edR_some h
  generalize edR p = e at *
  unfold decEd at h1
  split at h1
  · cases h1
  · split at h1
    · rename_i hh
      cases h1
      exact hh.2
    · cases h1
theorem wfR {n : Int} (h1 : 1 ≤ n) (h2 : n ≤ 999999999) : wfI n := by
  obtain ⟨k, rfl⟩ : ∃ k : Nat, n = k := ⟨n.toNat, by omega⟩
  unfold wfI
  have h3 : IntKind.min .i64 ≤ (k : Int) := by
    have : IntKind.min .i64 = -9223372036854775808 := by decide
    omega
  have h4 : (k : Int) ≤ IntKind.max .i64 := by
    have : IntKind.max .i64 = 9223372036854775807 := by decide
    omega
  show (decide (IntKind.min .i64 ≤ (k : Int)) && decide ((k : Int) ≤ IntKind.max .i64)) = true
  rw [decide_eq_true h3, decide_eq_true h4]
  rfl
theorem ed_parts {e : Ed} (h : edOk e = true) : FitsT e.ad ∧ (∀ t ∈ e.ad, wfI t.nu) ∧ (∀ x ∈ e.dl, wfI x) ∧ e.ad.length ≤ 1000 ∧ e.dl.length ≤ 1000 := by
  obtain ⟨q1, q2, q3, q4, -⟩ := (edOk_iff e).1 h
  refine ⟨fun t ht => ?_, fun t ht => ?_, fun x hx => ?_, q1, q3⟩
  · obtain ⟨-, -, h3, h4, -⟩ := (refOk_iff t).1 (List.all_eq_true.1 q2 t ht)
    unfold maxLen
    omega
  · obtain ⟨h1, -⟩ := (refOk_iff t).1 (List.all_eq_true.1 q2 t ht)
    exact wfR h1.1 h1.2
  · have h1 := (numOk_iff x).1 (List.all_eq_true.1 q4 x hx)
    exact wfR h1.1 h1.2
/-- What the tables of a version that was built edit by edit keep. -/
structure GoodTs (ts : List Tr) : Prop where
  good : ts.Pairwise GoodP
  len : ts.length ≤ 1000
  fits : FitsT ts
  wf : ∀ t ∈ ts, wfI t.nu
  sorted : ts.Pairwise LeT
theorem goodTs_nil : GoodTs [] := ⟨List.Pairwise.nil, Nat.zero_le _, fun t ht => absurd ht (by simp), fun t ht => absurd ht (by simp), List.Pairwise.nil⟩
theorem goodTs_next {ts : List Tr} {e : Ed} (h : GoodTs ts) (he : edOk e = true) (ha : apOk ts e = true) : GoodTs (apS ts e) := by
  obtain ⟨n1, n2⟩ := ap_next h.good ha
  obtain ⟨f1, f2, -⟩ := ed_parts he
  have hm : ∀ t ∈ apS ts e, t ∈ ts ∨ t ∈ e.ad := fun t ht => by
    rcases List.mem_append.1 ((apS_perm ts e).mem_iff.1 ht) with h' | h'
    · exact .inl (List.mem_filter.1 h').1
    · exact .inr h'
  exact ⟨n1, n2, fun t ht => (hm t ht).elim (h.fits t) (f1 t), fun t ht => (hm t ht).elim (h.wf t) (f2 t), apS_sorted ts e⟩
theorem sorted_eq {L ts : List Tr} (hpp : L.Perm ts) (hs : L.Pairwise LeT) (ht : ts.Pairwise LeT) (hg : ts.Pairwise GoodP) : L = ts := by
  refine hpp.eq_of_pairwise (le := LeT) (fun a b ha hb h1 h2 => ?_) hs ht
  have hga : L.Pairwise GoodP := (pair_perm hpp).2 hg
  have hb' : b ∈ L := hpp.mem_iff.2 hb
  have hnu : a.nu = b.nu := by
    rw [leT_iff] at h1 h2
    omega
  obtain ⟨i, hi, rfl⟩ := List.mem_iff_getElem.1 ha
  obtain ⟨j, hj, rfl⟩ := List.mem_iff_getElem.1 hb'
  have hgood : ∀ i j (hi : i < L.length) (hj : j < L.length), i < j → L[i].nu ≠ L[j].nu := fun i j hi hj hij h => by
    have := List.pairwise_iff_getElem.1 hga i j hi hj hij
    unfold GoodP good2 at this
    simp [h] at this
  rcases Nat.lt_trichotomy i j with h | rfl | h
  · exact absurd hnu (hgood i j hi hj h)
  · rfl
  · exact absurd hnu.symm (hgood j i hj hi h)
theorem dropS_cons (ps : List ByteArray) (k : Nat) (h : k < ps.length) : ps.drop k = ps.getD k ByteArray.empty :: ps.drop (k + 1) := by
  rw [show ps.getD k ByteArray.empty = ps[k] by simp [List.getD, h]]
  exact List.drop_eq_getElem_cons h
theorem getS_mem (ps : List ByteArray) (k : Nat) (h : k < ps.length) : ps.getD k ByteArray.empty ∈ ps := by
  rw [show ps.getD k ByteArray.empty = ps[k] by simp [List.getD, h]]
  exact List.getElem_mem h
end Go.Proofs.YtphikgobdfknkaaGreatDoor
