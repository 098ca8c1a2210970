import Derived.Test.YtogcpllpkdeehaaGreatDoorFlY

namespace Go.Proofs.YtogcpllpkdeehaaGreatDoor
open Go.RowKit
set_option linter.unusedVariables false
set_option linter.unusedSimpArgs false

theorem ofNat_at (n : Nat) (h : n < 256) : (UInt8.ofNat n).toNat = n := UInt8.toNat_ofNat_of_lt' h
/-- What was written is read back. -/
theorem gvf_vbf : ∀ (f m i n0 : Nat) (rest : List UInt8), m < 128 ^ (f + 1) → (0 < i → 0 < m) → gvf (f + 1) (vbf f m ++ rest) i n0 = some (n0 + m * 128 ^ i, i + (vbf f m).length) := by
  intro f
  induction f with
  | zero =>
    intro m i n0 rest hm hi
    have hm' : m < 128 := by simpa using hm
    have e := ofNat_at m (by omega)
    simp only [vbf, List.singleton_append, gvf, e]
    rw [if_pos hm', if_neg (by rintro ⟨h1, h2⟩; have := hi h2; omega), Nat.mod_eq_of_lt hm']
    rfl
  | succ f ih =>
    intro m i n0 rest hm hi
    by_cases h : m < 128
    · have e := ofNat_at m (by omega)
      rw [vbf_lt h]
      simp only [List.singleton_append, gvf, e]
      rw [if_pos h, if_neg (by rintro ⟨h1, h2⟩; have := hi h2; omega), Nat.mod_eq_of_lt h]
      rfl
    · have e := ofNat_at (m % 128 + 128) (by omega)
      rw [vbf_ge h]
      have e2 : (m % 128 + 128) % 128 = m % 128 := by omega
      simp only [List.cons_append, gvf, e, e2]
      rw [if_neg (by omega), ih (m / 128) (i + 1) _ rest (by rw [Nat.pow_succ] at hm; omega) (fun _ => by omega)]
      simp only [List.length_cons, Option.some.injEq, Prod.mk.injEq]
      refine ⟨?_, by omega⟩
      rw [Nat.pow_succ, Nat.add_assoc]
      congr 1
      have : m * 128 ^ i = (m % 128 + 128 * (m / 128)) * 128 ^ i := by rw [Nat.mod_add_div]
      rw [this, Nat.add_mul]
      congr 1
      rw [Nat.mul_comm (128 ^ i) 128, ← Nat.mul_assoc, Nat.mul_comm (m / 128) 128]
theorem gv_at {s : ByteArray} {A R : List UInt8} {n : Nat} (hs : s.data.toList = A ++ (vb n ++ R)) (hn : n ≤ 72057594037927935) : gv s (A.length : Nat) = some (n, (vb n).length) := by
  have hl : s.size = A.length + ((vb n).length + R.length) := by rw [← dataL, hs]; simp
  have hp := vbf_pos 7 n
  unfold gv
  rw [if_pos ⟨by omega, by show (A.length : Int) < s.size; have : 0 < (vb n).length := hp; omega⟩, Int.toNat_natCast, hs, List.drop_left]
  have := gvf_vbf 7 n 0 0 R (by have : (128 : Nat) ^ 8 = 72057594037927936 := by decide
                                omega) (fun h => by omega)
  rw [this]
  simp
theorem bytes_ext {a b : ByteArray} (h : a.data.toList = b.data.toList) : a = b := by
  cases a; cases b
  simp at h
  rw [h]
theorem pc_at {s : ByteArray} {A R : List UInt8} {t : ByteArray} (hs : s.data.toList = A ++ (vb t.size ++ t.data.toList ++ R)) (hn : t.size ≤ 72057594037927935) : pc s A.length = some (t, A.length + (vb t.size).length + t.size) := by
  have hl : s.size = A.length + ((vb t.size).length + t.size + R.length) := by rw [← dataL, hs]; simp only [List.length_append, dataL]
  have hg := gv_at (n := t.size) (R := t.data.toList ++ R) (by rw [hs, List.append_assoc]) hn
  unfold pc
  rw [hg]
  simp only
  rw [if_pos (by omega)]
  have e : cut s (A.length + (vb t.size).length) (A.length + (vb t.size).length + t.size) = t := by
    apply bytes_ext
    rw [cut_data _ _ _ (by omega), hs]
    rw [show A ++ (vb t.size ++ t.data.toList ++ R) = (A ++ vb t.size) ++ (t.data.toList ++ R) by simp]
    rw [List.drop_append_of_le_length (by simp), List.drop_of_length_le (by simp), List.nil_append]
    rw [List.take_append_of_le_length (by rw [dataL]; exact Nat.le_refl _), List.take_of_length_le (by rw [dataL]; exact Nat.le_refl _)]
  rw [e]
theorem pe_at {s : ByteArray} {A R : List UInt8} {e : En} (hs : s.data.toList = A ++ (eb e ++ R)) (he : entOk e = true) : pe s A.length = some (e, A.length + (eb e).length) := by
  obtain ⟨⟨h1, h2, h3, h4⟩, h5⟩ := (entOk_iff e).1 he
  have hv : e.vl.size ≤ 4000 := by rcases h5 with ⟨-, h⟩ | ⟨-, h⟩ <;> omega
  have hk : e.kd.toNat < 256 ∧ (e.kd.toNat : Int) = e.kd := by rcases h5 with ⟨h, -⟩ | ⟨h, -⟩ <;> rw [h] <;> decide
  obtain ⟨k, q, d, v⟩ := e
  simp only at h1 h2 h3 h4 hv hk
  have e1 : s.data.toList = A ++ (vb k.size ++ k.data.toList ++ (vb q.toNat ++ ([UInt8.ofNat d.toNat] ++ (vb v.size ++ v.data.toList ++ R)))) := by rw [hs]; simp [eb, ebA, ebB]
  have p1 := pc_at e1 (by omega)
  have e2 : s.data.toList = (A ++ (vb k.size ++ k.data.toList)) ++ (vb q.toNat ++ ([UInt8.ofNat d.toNat] ++ (vb v.size ++ v.data.toList ++ R))) := by rw [e1]; simp
  have p2 := gv_at e2 (by omega)
  have l2 : (A ++ (vb k.size ++ k.data.toList)).length = A.length + (vb k.size).length + k.size := by simp only [List.length_append, dataL]; omega
  rw [l2] at p2
  have e3 : s.data.toList = (A ++ (vb k.size ++ k.data.toList) ++ vb q.toNat ++ [UInt8.ofNat d.toNat]) ++ (vb v.size ++ v.data.toList ++ R) := by rw [e1]; simp
  have p3 := pc_at e3 (by omega)
  have l3 : (A ++ (vb k.size ++ k.data.toList) ++ vb q.toNat ++ [UInt8.ofNat d.toNat]).length = A.length + (vb k.size).length + k.size + (vb q.toNat).length + 1 := by simp only [List.length_append, dataL, List.length_singleton]; omega
  rw [l3] at p3
  have hl : s.size = A.length + (vb k.size).length + k.size + (vb q.toNat).length + 1 + ((vb v.size).length + v.size + R.length) := by rw [← dataL, e3, List.length_append, l3]; simp only [List.length_append, dataL]
  have hlt : A.length + (vb k.size).length + k.size + (vb q.toNat).length < s.size := by omega
  have hb : s[A.length + (vb k.size).length + k.size + (vb q.toNat).length] = UInt8.ofNat d.toNat := by
    have e4 : s.data.toList = (A ++ (vb k.size ++ k.data.toList) ++ vb q.toNat) ++ ([UInt8.ofNat d.toNat] ++ (vb v.size ++ v.data.toList ++ R)) := by rw [e1]; simp
    have l4 : (A ++ (vb k.size ++ k.data.toList) ++ vb q.toNat).length = A.length + (vb k.size).length + k.size + (vb q.toNat).length := by simp only [List.length_append, dataL]; omega
    have h : s.data.toList[A.length + (vb k.size).length + k.size + (vb q.toNat).length]? = some (UInt8.ofNat d.toNat) := by
      rw [e4, List.getElem?_append_right (by omega), l4]
      simp
    have h2 : s.data.toList[A.length + (vb k.size).length + k.size + (vb q.toNat).length]? = some (s[A.length + (vb k.size).length + k.size + (vb q.toNat).length]) := by
      rw [List.getElem?_eq_getElem (by rw [dataL]; exact hlt)]
      rfl
    rw [h2] at h
    exact Option.some.inj h
  unfold pe
  rw [p1]
  simp only
  rw [p2]
  simp only
  rw [dif_pos hlt, p3]
  simp only [Option.some.injEq, Prod.mk.injEq, En.mk.injEq, true_and]
  refine ⟨⟨by omega, ?_⟩, ?_⟩
  · rw [hb, ofNat_at _ hk.1]
    exact ⟨hk.2, trivial⟩
  · simp only [eb, ebA, ebB, List.length_append, dataL, List.length_singleton]
    omega
theorem ps_at {s : ByteArray} {A : List UInt8} : ∀ (n : Nat) (xs : List En) (R : List UInt8), xs.length = n → s.data.toList = A ++ (xs.flatMap eb ++ R) → xs.all entOk = true → ps s n A.length = some (xs, A.length + (xs.flatMap eb).length) := by
  intro n
  induction n with
  | zero =>
    intro xs R hn hs ha
    obtain rfl := List.eq_nil_of_length_eq_zero hn
    rfl
  | succ n ih =>
    intro xs R hn hs ha
    obtain ⟨ys, e, rfl⟩ : ∃ ys e, xs = ys ++ [e] := by
      rcases List.eq_nil_or_concat xs with rfl | ⟨ys, e, h⟩
      · simp at hn
      · exact ⟨ys, e, by simpa using h⟩
    rw [List.all_append, Bool.and_eq_true] at ha
    have hy := ih ys (eb e ++ R) (by simpa using hn) (by rw [hs]; simp [List.flatMap_append]) ha.1
    have he := pe_at (s := s) (A := A ++ ys.flatMap eb) (R := R) (e := e) (by rw [hs]; simp [List.flatMap_append]) (by simpa using ha.2)
    rw [List.length_append] at he
    simp only [ps]
    rw [hy]
    simp only
    rw [he]
    simp [List.flatMap_append]
    omega
theorem dec_enc {xs : List En} (hn : xs.length ≤ 1000) (ha : xs.all entOk = true) : dec (encT xs) = some xs := by
  have e := encT_ok xs hn ha
  rw [e]
  have hs : (⟨(encB xs.length xs).toArray⟩ : ByteArray).data.toList = [] ++ (vb xs.length ++ (xs.flatMap eb ++ [])) := by simp [encB]
  have hg := gv_at (A := []) hs (by omega)
  have hs2 : (⟨(encB xs.length xs).toArray⟩ : ByteArray).data.toList = vb xs.length ++ (xs.flatMap eb ++ []) := by simp [encB]
  have hp := ps_at (A := vb xs.length) xs.length xs [] rfl hs2 ha
  have hd := dec_end (E := (vb xs.length).length + (xs.flatMap eb).length) hg hn hp ha
  rw [hd, if_pos]
  show _ = ((encB xs.length xs).toArray).size
  simp [encB]
/-- The blocks of a table. -/
def pls (xs : List En) : Nat → List (List UInt8)
  | 0 => []
  | k + 1 => pls xs k ++ [(encT (subE xs k)).data.toList]
theorem pls_small {xs : List En} (h : xs.all entOk = true) : ∀ k, ∀ P ∈ pls xs k, P.length ≤ 1048576
  | 0, P, hP => by cases hP
  | k + 1, P, hP => by
    rcases List.mem_append.1 hP with hP | hP
    · exact pls_small h k P hP
    · simp at hP
      subst hP
      have := subE_size h k
      rw [dataL]
      omega
theorem tab_frames {xs : List En} (h : xs.all entOk = true) : ∀ k, (tab xs k).1 = framesL 66 (pls xs k)
  | 0 => rfl
  | k + 1 => by
    show (tab xs k).1 ++ (frT 66 (encT (subE xs k))).data.toList = framesL 66 (pls xs k ++ [(encT (subE xs k)).data.toList])
    rw [tab_frames h k, framesL_append]
    congr 1
    have := subE_size h k
    unfold frT
    rw [if_pos ⟨by decide, by omega⟩]
    simp [framesL]
theorem pls_texts (xs : List En) : ∀ k, (pls xs k).map (fun P => (⟨P.toArray⟩ : ByteArray)) = (List.range k).map fun j => encT (subE xs j)
  | 0 => rfl
  | k + 1 => by
    rw [List.range_succ, List.map_append]
    show (pls xs k ++ [(encT (subE xs k)).data.toList]).map _ = _
    rw [List.map_append, pls_texts xs k]
    rfl
theorem sub_join (xs : List En) : ∀ k, ((List.range k).flatMap fun j => subE xs j) = xs.take (8 * k)
  | 0 => rfl
  | k + 1 => by
    rw [List.range_succ, List.flatMap_append, sub_join xs k]
    show xs.take (8 * k) ++ (subE xs k ++ []) = _
    rw [List.append_nil, show 8 * (k + 1) = 8 * k + 8 by omega, List.take_add]
    rfl
theorem sub_all (xs : List En) : ((List.range (nbE xs.length)).flatMap fun j => subE xs j) = xs := by
  rw [sub_join]
  apply List.take_of_length_le
  unfold nbE
  omega
theorem frT_mod (k : Int) (p : ByteArray) : (frT k p).size % 64 = 0 := by
  by_cases h : kindOk k = true ∧ p.size ≤ 1048576
  · rw [frT_size h.1 h.2]
    omega
  · unfold frT
    rw [if_neg h]
    rfl
theorem tab_mod (xs : List En) : ∀ k, (tab xs k).1.length % 64 = 0
  | 0 => rfl
  | k + 1 => by
    have h1 := tab_mod xs k
    have h2 := frT_mod 66 (encT (subE xs k))
    show ((tab xs k).1 ++ (frT 66 (encT (subE xs k))).data.toList).length % 64 = 0
    rw [List.length_append, dataL]
    omega
theorem tabT_mod (xs : List En) : (tabT xs).size % 64 = 0 := by
  unfold tabT
  split
  · unfold tabX
    split
    · rfl
    · have h1 := tab_mod xs (nbE xs.length)
      have h2 := frT_mod 73 ⟨(vb (nbE xs.length) ++ (tab xs (nbE xs.length)).2).toArray⟩
      have h3 := frT_mod 70 ⟨(vb ((tab xs (nbE xs.length)).1.length / 64)).toArray⟩
      show (((tab xs (nbE xs.length)).1 ++ (idxT xs).data.toList ++ (frT 70 ⟨(vb ((tab xs (nbE xs.length)).1.length / 64)).toArray⟩).data.toList).toArray).size % 64 = 0
      rw [List.size_toArray, List.length_append, List.length_append, dataL, dataL]
      unfold idxT
      omega
  · rfl
/-- The frames of a table. -/
theorem tab_frs {xs : List En} (h0 : (tabT xs).size ≠ 0) : xs.all entOk = true ∧ ∃ f g : Fr, frs (tabT xs) 0 = mkF 66 0 (pls xs (nbE xs.length)) ++ [f, g] ∧ gd 66 f = false ∧ gd 66 g = false := by
  have hc : xs.length ≤ 300000 ∧ okTo xs xs.length = true := by
    by_cases hc : xs.length ≤ 300000 ∧ okTo xs xs.length = true
    · exact hc
    · unfold tabT at h0
      rw [if_neg hc] at h0
      exact absurd rfl h0
  have ha := ((okTo_all xs).1 hc.2).1
  have hi : (idxT xs).size ≠ 0 := by
    intro hi
    unfold tabT at h0
    rw [if_pos hc, tabX_none hi] at h0
    exact absurd rfl h0
  refine ⟨ha, ?_⟩
  have hI : (⟨(vb (nbE xs.length) ++ (tab xs (nbE xs.length)).2).toArray⟩ : ByteArray).size ≤ 1048576 := by
    by_cases h : (⟨(vb (nbE xs.length) ++ (tab xs (nbE xs.length)).2).toArray⟩ : ByteArray).size ≤ 1048576
    · exact h
    · unfold idxT frT at hi
      rw [if_neg (by rintro ⟨-, h2⟩; exact h h2)] at hi
      exact absurd rfl hi
  have hF : (⟨(vb ((tab xs (nbE xs.length)).1.length / 64)).toArray⟩ : ByteArray).size ≤ 1048576 := by
    show ((vb ((tab xs (nbE xs.length)).1.length / 64)).toArray).size ≤ 1048576
    rw [List.size_toArray]
    have := vbf_length_le 7 ((tab xs (nbE xs.length)).1.length / 64)
    show (vbf 7 ((tab xs (nbE xs.length)).1.length / 64)).length ≤ 1048576
    omega
  have hs : (tabT xs).data.toList = framesL 66 (pls xs (nbE xs.length)) ++ (frB 73 (vb (nbE xs.length) ++ (tab xs (nbE xs.length)).2) ++ frB 70 (vb ((tab xs (nbE xs.length)).1.length / 64))) := by
    unfold tabT
    rw [if_pos hc]
    unfold tabX
    rw [if_neg hi]
    show (tab xs (nbE xs.length)).1 ++ (idxT xs).data.toList ++ (frT 70 ⟨(vb ((tab xs (nbE xs.length)).1.length / 64)).toArray⟩).data.toList = _
    rw [tab_frames ha]
    unfold idxT frT
    rw [if_pos ⟨by decide, hI⟩, if_pos ⟨by decide, by rw [tab_frames ha] at hF; exact hF⟩, List.append_assoc]
    rfl
  generalize hIL : vb (nbE xs.length) ++ (tab xs (nbE xs.length)).2 = I at *
  generalize hFL : vb ((tab xs (nbE xs.length)).1.length / 64) = F at *
  have hI' : I.length ≤ 1048576 := by
    have e : (⟨I.toArray⟩ : ByteArray).size = I.length := by show I.toArray.size = _; simp
    omega
  have hF' : F.length ≤ 1048576 := by
    have e : (⟨F.toArray⟩ : ByteArray).size = F.length := by show F.toArray.size = _; simp
    omega
  have hPs := pls_small ha (nbE xs.length)
  have hL := framesL_len 66 (pls xs (nbE xs.length))
  generalize pls xs (nbE xs.length) = Ps at *
  have k1 := frs_frames (s := tabT xs) (k := 66) (by decide) (by decide) Ps [] _ 0 (by rw [hs]; rfl) rfl hPs
  have k2 := frs_frames (s := tabT xs) (k := 73) (by decide) (by decide) [I] (framesL 66 Ps) (frB 70 F) (pgs Ps) (by rw [hs]; simp [framesL]) (by omega) (by intro P hP; simp at hP; subst hP; exact hI')
  have k3 := frs_frames (s := tabT xs) (k := 70) (by decide) (by decide) [F] (framesL 66 Ps ++ frB 73 I) [] (pgs Ps + pgs [I]) (by rw [hs]; simp [framesL]) (by rw [List.length_append, hL, frB_lenR]; simp [pgs]; omega) (by intro P hP; simp at hP; subst hP; exact hF')
  have hsz : (tabT xs).size = 64 * pgs Ps + (64 * pagesN (8 + I.length) + 64 * pagesN (8 + F.length)) := by rw [← dataL, hs, List.length_append, List.length_append, hL, frB_lenR, frB_lenR]
  have p1 : pgs [I] = pagesN (8 + I.length) := by simp [pgs]
  have p2 : pgs [F] = pagesN (8 + F.length) := by simp [pgs]
  have k4 : frs (tabT xs) (pgs Ps + pgs [I] + pgs [F]) = [] := frs_end (by rw [p1, p2]; omega)
  rw [k1, Nat.zero_add, k2, k3, k4]
  refine ⟨some (73, I, pgs Ps + pagesN (8 + I.length)), some (70, F, pgs Ps + pgs [I] + pagesN (8 + F.length)), ?_, rfl, rfl⟩
  simp [mkF]
theorem tab_pl {xs : List En} (h0 : (tabT xs).size ≠ 0) : pl (tabT xs) = (List.range (nbE xs.length)).map fun j => encT (subE xs j) := by
  obtain ⟨ha, f, g, h1, h2, h3⟩ := tab_frs h0
  unfold pl
  rw [rl_stop (k := (66 : Int)) (pre := mkF 66 0 (pls xs (nbE xs.length))) (rest := [g]) (f := f) h1 (show ∀ x ∈ mkF 66 0 (pls xs (nbE xs.length)), gd 66 x = true from mkF_gd 66 _ 0) h2, mkF_texts, pls_texts]
theorem tab_sv {xs : List En} (h0 : (tabT xs).size ≠ 0) : svL (tabT xs) 66 = (List.range (nbE xs.length)).map fun j => encT (subE xs j) := by
  obtain ⟨ha, f, g, h1, h2, h3⟩ := tab_frs h0
  unfold svL
  rw [h1, List.filter_append]
  have e1 : (mkF 66 0 (pls xs (nbE xs.length))).filter (gd 66) = mkF 66 0 (pls xs (nbE xs.length)) := List.filter_eq_self.2 (show ∀ x ∈ mkF 66 0 (pls xs (nbE xs.length)), gd 66 x = true from mkF_gd 66 _ 0)
  have e2 : [f, g].filter (gd 66) = [] := by simp [List.filter_cons, h2, h3]
  rw [e1, e2, List.append_nil, mkF_texts, pls_texts]
theorem sub_dec {xs : List En} (ha : xs.all entOk = true) (k : Nat) : dec (encT (subE xs k)) = some (subE xs k) := dec_enc (by rw [subE_len]; omega) (subE_all ha k)
/-- A table is read back. -/
theorem tab_rt {xs : List En} (h0 : (tabT xs).size ≠ 0) : rtO (tabT xs) = some xs := by
  have ha := (tab_frs h0).1
  have hp := tab_pl h0
  have he : esT (pl (tabT xs)) = xs := by
    rw [hp]
    unfold esT
    rw [List.flatMap_map]
    have e : (fun j => decL (encT (subE xs j))) = fun j => subE xs j := by
      funext j
      unfold decL
      rw [sub_dec ha j]
      rfl
    rw [e, sub_all]
  have ho : okD (pl (tabT xs)) = true := by
    rw [hp]
    unfold okD
    rw [List.all_map, List.all_eq_true]
    intro j _
    show (dec (encT (subE xs j))).isSome = true
    rw [sub_dec ha j]
    rfl
  rw [rtO_some ho h0 (by rw [he]), he]
/-- .. and no text with one byte less is one. -/
theorem tab_less {s : ByteArray} (h : s.size % 64 ≠ 0) : rtO s = none := rtO_none (by
  rintro ⟨-, -, h3⟩
  have := tabT_mod (esT (pl s))
  rw [h3] at this
  exact h this)
end Go.Proofs.YtogcpllpkdeehaaGreatDoor
