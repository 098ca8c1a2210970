
import Derived.Test.YtfbmplecmaebbacDoorSvW
namespace Go.Proofs.YtfbmplecmaebbacDoor
open Go.RowKit Go.Maps
set_option linter.unusedVariables false
set_option linter.unusedSimpArgs false

abbrev dts (ps : List ByteArray) : List (List UInt8) := ps.map fun p => p.data.toList
/-- Where the frames begin. -/
def stL (ps : List ByteArray) : List Nat := (List.range ps.length).map fun i => 64 * pgs (dts (ps.take i))
def intL (ks : List Nat) : List Value := ks.map fun (k : Nat) => .int .i64 (k : Int)
theorem stL_snoc (ps : List ByteArray) (p : ByteArray) : stL (ps ++ [p]) = stL ps ++ [64 * pgs (dts ps)] := by
  unfold stL
  rw [List.length_append, List.length_singleton, List.range_succ, List.map_append]
  congr 1
  · apply List.map_congr_left
    intro i hi
    rw [List.mem_range] at hi
    rw [List.take_append_of_le_length (by omega)]
  · simp
theorem intL_snoc (ks : List Nat) (k : Nat) : intL (ks ++ [k]) = intL ks ++ [.int .i64 (k : Int)] := by simp [intL]
theorem int_info' : (Tryd.prog.info? 3).map (fun i => (i.zero, i.size, i.bytes)) = some (some (.int .i64 0), 1, 8) := by kernel_rfl
/-- The state of the first loop. -/
structure Blt (B K : Nat) (ps : List ByteArray) (S : ByteArray) (v u : Value) (W : World) : Prop where
  sz : ∀ p ∈ ps, p.size ≤ 4000
  dat : S.data.toList = framesL K (dts ps)
  row : W.ownsRow B 9 1 v ps.length (strL ps)
  ints : W.ownsRow B 3 1 u ps.length (intL (stL ps))
theorem pgs_le {ps : List ByteArray} (h : ∀ p ∈ ps, p.size ≤ 4000) : ps.length ≤ pgs (dts ps) ∧ pgs (dts ps) ≤ 65 * ps.length := by
  induction ps with
  | nil => simp [pgs]
  | cons p r ih =>
    have h1 := ih (fun q hq => h q (by simp [hq]))
    have h2 := h p (by simp)
    have e : dts (p :: r) = p.data.toList :: dts r := rfl
    have h3 : p.data.toList.length = p.size := len_data p
    rw [e, pgs_cons, h3, List.length_cons]
    have : 1 ≤ pagesN (8 + p.size) ∧ pagesN (8 + p.size) ≤ 65 := by unfold pagesN; omega
    omega
theorem Blt.size {B K : Nat} {ps : List ByteArray} {S : ByteArray} {v u : Value} {W : World} (h : Blt B K ps S v u W) : S.size = 64 * pgs (dts ps) := by rw [← len_data, h.dat, framesL_len]

theorem frT_facts (K : Nat) (p : ByteArray) (hk : kindOk (K : Int) = true) (hp : p.size ≤ 4000) : ∃ N, 1 ≤ N ∧ N ≤ 65 ∧ (frT K p).data.toList = frB K p.data.toList ∧ (frT K p).size = 64 * N := by
  have hfT := frT_in (k := (K : Int)) (p := p) hk (by omega)
  have HG : (frT K p).data.toList = frB K p.data.toList := by rw [hfT]; rfl
  refine ⟨pagesN (8 + p.size), by unfold pagesN; omega, by unfold pagesN; omega, HG, ?_⟩
  rw [← len_data, HG, frB_len, len_data]
theorem stL_len (ps : List ByteArray) : (stL ps).length = ps.length := by simp [stL]
theorem dts_small {ps : List ByteArray} (h : ∀ p ∈ ps, p.size ≤ 4000) : ∀ P ∈ dts ps, P.length ≤ 1048576 := by
  intro P hP
  obtain ⟨q, hq, rfl⟩ := List.mem_map.1 hP
  have := h q hq
  rw [len_data]
  omega
theorem dts_ne {ps : List ByteArray} (h : 1 ≤ ps.length) : dts ps ≠ [] := by
  intro e
  have h2 := congrArg List.length e
  rw [List.length_map, List.length_nil] at h2
  omega
/-- Where frame j ends, counted from one. -/
def enD (ps : List ByteArray) (j : Nat) : Nat := 64 * pgs (dts (ps.take j))
theorem stL_at (ps : List ByteArray) (i : Nat) (h : i < ps.length) : (stL ps).getD i 0 = enD ps i := by simp [stL, enD, List.getD, h]
theorem enD_all (ps : List ByteArray) : enD ps ps.length = 64 * pgs (dts ps) := by unfold enD; rw [List.take_length]
theorem dts_back (ps : List ByteArray) : (dts ps).map (fun P => (⟨P.toArray⟩ : ByteArray)) = ps := by
  induction ps with
  | nil => rfl
  | cons p r ih => simp only [dts, List.map_cons] at *; rw [ih, data_back]
theorem lieI_of_owns {w : World} {B n : Nat} {v : Value} {ks : List Nat} (h : w.ownsRow B 3 1 v n (intL ks)) (hpos : 0 < ks.length) : ∃ g cap, v = .slice (some ⟨g, 0, none⟩) n cap ∧ g < w.heap.size ∧ ∀ i, i < ks.length → w.cell? ⟨g, i, none⟩ = some (.int .i64 (ks.getD i 0 : Nat)) := by
  obtain ⟨h1, h2⟩ := h
  have hn : n = ks.length := by simp only [intL, List.length_map] at h1; omega
  subst hn
  rcases h2 with ⟨rfl, h0⟩ | ⟨g, cap, cur, rfl, hg, hb, hl, hm, hsz, htk⟩
  · omega
  · refine ⟨g, cap, rfl, heap_lt hb, fun i hi => ?_⟩
    have e1 : (cur.toList.take (ks.length * 1))[i]? = (intL ks)[i]? := by rw [htk]
    rw [List.getElem?_take_of_lt (by omega)] at e1
    have e2 : (intL ks)[i]? = some (.int .i64 (ks.getD i 0 : Nat)) := by simp [intL, List.getD, hi]
    simp only [World.cell?, hb]
    rw [← e2, ← e1]
    simp
theorem rows_ne {W : World} {B n m : Nat} {v u : Value} {xs ys : List Value} (h : W.ownsRow B 9 1 v n xs) (g : W.ownsRow B 3 1 u m ys) : u.ownBlock = none ∨ u.ownBlock ≠ v.ownBlock := by
  obtain ⟨-, h2⟩ := h
  obtain ⟨-, g2⟩ := g
  rcases g2 with ⟨rfl, -⟩ | ⟨b, cap, cur, rfl, -, hb, -⟩
  · exact .inl rfl
  · refine .inr fun e => ?_
    rcases h2 with ⟨rfl, -⟩ | ⟨b2, cap2, cur2, rfl, -, hb2, -⟩
    · cases e
    · cases e
      rw [hb] at hb2
      cases hb2
theorem rows_ne' {W : World} {B n m : Nat} {v u : Value} {xs ys : List Value} (h : W.ownsRow B 9 1 v n xs) (g : W.ownsRow B 3 1 u m ys) : v.ownBlock = none ∨ v.ownBlock ≠ u.ownBlock := by
  rcases rows_ne h g with e | e
  · by_cases hv : v.ownBlock = none
    · exact .inl hv
    · exact .inr (by rw [e]; exact hv)
  · exact .inr (Ne.symm e)

theorem owns_cap {w : World} {B n : Nat} {e : TypeId} {v : Value} {xs : List Value} (h : w.ownsRow B e 1 v n xs) : ∀ a m cap, v = .slice a m cap → n ≤ cap := by
  intro a m cap hv
  obtain ⟨-, h2⟩ := h
  rcases h2 with ⟨rfl, h0⟩ | ⟨g, cap', cur, rfl, hg, hb, hl, hrest⟩
  · cases hv; omega
  · cases hv; exact hl
theorem enD_room (ps : List ByteArray) (g : Nat) (h : g < ps.length) : enD ps g + 64 ≤ 64 * pgs (dts ps) := by
  have hd : ps.drop g = ps[g] :: ps.drop (g + 1) := List.drop_eq_getElem_cons h
  have hsp : dts ps = dts (ps.take g) ++ dts (ps.drop g) := by unfold dts; rw [← List.map_append, List.take_append_drop]
  have e : dts (ps.drop g) = ps[g].data.toList :: dts (ps.drop (g + 1)) := by rw [hd]; rfl
  rw [hsp, pgs_append, e, pgs_cons]
  have := pages_pos ps[g].data.toList.length
  unfold enD
  omega
theorem hurt_data {K : Nat} {ps : List ByteArray} {S : ByteArray} (h : S.data.toList = framesL K (dts ps)) (g : Nat) (hg : g < ps.length) (E0 m : Nat) (hE : E0 = enD ps g) (hm : m = S.size) :
    (S.extract 0 E0 ++ ⟨#[0]⟩ ++ S.extract (E0 + 1) m).data.toList = framesL K (dts (ps.take g)) ++ ((0 :: (frB K ps[g].data.toList).drop 1) ++ framesL K (dts (ps.drop (g + 1)))) := by
  have hd : ps.drop g = ps[g] :: ps.drop (g + 1) := List.drop_eq_getElem_cons hg
  have hsp : dts ps = dts (ps.take g) ++ dts (ps.drop g) := by unfold dts; rw [← List.map_append, List.take_append_drop]
  have e : dts (ps.drop g) = ps[g].data.toList :: dts (ps.drop (g + 1)) := by rw [hd]; rfl
  have hA : (framesL K (dts (ps.take g))).length = E0 := by rw [framesL_len, hE]; rfl
  have hp := pages_pos ps[g].data.toList.length
  have hf := frB_len K ps[g].data.toList
  subst hm
  rw [appL, appL, ext_take, ext_drop, h, hsp, framesL_append, e, framesL_cons]
  rw [List.take_append_of_le_length (by omega), List.take_of_length_le (by omega)]
  rw [show E0 + 1 = (framesL K (dts (ps.take g))).length + 1 by omega, List.drop_append, List.drop_of_length_le (by omega), List.nil_append, show (framesL K (dts (ps.take g))).length + 1 - (framesL K (dts (ps.take g))).length = 1 by omega]
  rw [List.drop_append_of_le_length (by omega)]
  simp
theorem hurt_read {B K : Nat} {ps : List ByteArray} {S : ByteArray} {v u : Value} {Wd : World} (h : Blt B K ps S v u Wd) (hk : kindOk (K : Int) = true) (hK : K < 256) (g E0 m : Nat) (hg : g < ps.length) (hE : E0 = enD ps g) (hm : m = S.size) :
    svL (S.extract 0 E0 ++ ⟨#[0]⟩ ++ S.extract (E0 + 1) m) K = ps.take g ++ ps.drop (g + 1) ∧ (rlL (S.extract 0 E0 ++ ⟨#[0]⟩ ++ S.extract (E0 + 1) m) K).map rfB = ps.take g := by
  have hd := hurt_data h.dat g hg E0 m hE hm
  have hsm := dts_small h.sz
  obtain ⟨h1, h2⟩ := sv_hurt hd hk hK (fun Q hQ => by
    rcases List.mem_append.1 hQ with q | q
    · obtain ⟨x, hx, rfl⟩ := List.mem_map.1 q
      exact hsm _ (List.mem_map.2 ⟨x, List.mem_of_mem_take hx, rfl⟩)
    · obtain ⟨x, hx, rfl⟩ := List.mem_map.1 q
      exact hsm _ (List.mem_map.2 ⟨x, List.mem_of_mem_drop hx, rfl⟩))
  refine ⟨?_, by rw [h2, mkF_texts, dts_back]⟩
  rw [h1, List.map_append, dts_back, dts_back]
theorem hurt_nums (E M : Nat) (h : E + 64 ≤ 64 * M) (hM : M ≤ 1000) : ((E : Nat) : Int) ≤ 64 * M ∧ ((E : Nat) : Int) + 1 ≤ 64 * M ∧ (0 : Int) ≤ ((E : Nat) : Int) + 1 ∧ IntKind.i64.wrap (((E : Nat) : Int) + 1) = ((E : Nat) : Int) + 1 ∧ wrap64 (((E : Nat) : Int) + 1) = ((E : Nat) : Int) + 1 ∧ min E (64 * M) = E ∧
    ¬ 9223372036854775807 < E + 1 ∧ ¬ 9223372036854775807 < E + 1 + (64 * M - (E + 1)) :=
  ⟨by omega, by omega, by omega, by rw [IntKind.wrap_i64]; omega, by unfold wrap64; omega, by omega, by omega, by omega⟩
theorem hurt_size {S : ByteArray} {E M : Nat} (hS : S.size = 64 * M) (h : E + 64 ≤ 64 * M) (hM : M ≤ 1000) : (S.extract 0 E ++ ⟨#[0]⟩ ++ S.extract (E + 1) (64 * M)).size ≤ 1048576 := by
  simp only [ByteArray.size_append, ByteArray.size_extract]
  have : (⟨#[0]⟩ : ByteArray).size = 1 := rfl
  omega
/-- The texts but one. -/
def keepL (ps : List ByteArray) (gn : Nat) : Nat → List ByteArray
  | 0 => []
  | i + 1 => if i = gn then keepL ps gn i else keepL ps gn i ++ [ps.getD i ByteArray.empty]
theorem keepL_len (ps : List ByteArray) (gn : Nat) : ∀ i, (keepL ps gn i).length ≤ i := by
  intro i
  induction i with
  | zero => exact Nat.le_refl _
  | succ i ih =>
    simp only [keepL]
    split
    · omega
    · simp; omega
theorem take_more (ps : List ByteArray) (i : Nat) (h : i < ps.length) : ps.take (i + 1) = ps.take i ++ [ps.getD i ByteArray.empty] := by
  rw [List.take_succ_eq_append_getElem h]
  simp [List.getD, h]
theorem keepL_eq (ps : List ByteArray) (gn : Nat) : ∀ i, i ≤ ps.length → keepL ps gn i = if i ≤ gn then ps.take i else ps.take gn ++ (ps.take i).drop (gn + 1) := by
  intro i
  induction i with
  | zero => intro _; rw [if_pos (Nat.zero_le _)]; rfl
  | succ i ih =>
    intro hi
    have h := ih (by omega)
    simp only [keepL]
    by_cases hg : i = gn
    · rw [if_pos hg, h, if_pos (by omega), if_neg (by omega), hg, List.drop_of_length_le (by rw [List.length_take]; omega), List.append_nil]
    · rw [if_neg hg, h]
      by_cases hlt : i ≤ gn
      · rw [if_pos hlt, if_pos (by omega), take_more ps i (by omega)]
      · rw [if_neg hlt, if_neg (by omega), take_more ps i (by omega), List.append_assoc, List.drop_append_of_le_length (by rw [List.length_take]; omega)]
theorem keepL_all (ps : List ByteArray) (gn : Nat) (h : gn < ps.length) : keepL ps gn ps.length = ps.take gn ++ ps.drop (gn + 1) := by
  rw [keepL_eq ps gn _ (Nat.le_refl _), if_neg (by omega), List.take_length]
theorem ends_more {ps : List ByteArray} {W i0 c : Nat} (h : ∀ j, W < j → j ≤ i0 → c < enD ps j) (hn : c < enD ps (i0 + 1)) : ∀ j, W < j → j ≤ i0 + 1 → c < enD ps j := fun j h1 h2 => by
  by_cases hj : j = i0 + 1
  · rw [hj]; exact hn
  · exact h j h1 (by omega)
theorem cut_read {B K W c : Nat} {ps : List ByteArray} {S : ByteArray} {v u : Value} {Wd : World} (h : Blt B K ps S v u Wd) (hk : kindOk (K : Int) = true) (hK : K < 256) (hW : W ≤ ps.length) (h1 : enD ps W ≤ c) (h2 : ∀ j, W < j → j ≤ ps.length → c < enD ps j) (h3 : c ≤ 64 * pgs (dts ps)) : rlL (S.extract 0 c) K = mkF K 0 (dts (ps.take W)) := by
  have hsp : dts ps = dts (ps.take W) ++ dts (ps.drop W) := by unfold dts; rw [← List.map_append, List.take_append_drop]
  refine rl_cut (P1 := dts (ps.take W)) (P2 := dts (ps.drop W)) (c := c) ?_ hk hK ?_ h1 (fun Q r hQ => ?_) (by rw [← hsp]; exact h3)
  · rw [← hsp, ← h.dat, ext_take]
  · rw [← hsp]; exact dts_small h.sz
  · have hlt : W < ps.length := by
      by_cases hlt : W < ps.length
      · exact hlt
      · have : (dts (ps.drop W)).length = 0 := by rw [List.length_map, List.length_drop]; omega
        rw [hQ] at this
        simp at this
    have e := h2 (W + 1) (by omega) hlt
    have e2 : dts (ps.take (W + 1)) = dts (ps.take W) ++ [Q] := by
      have hd : ps.drop W = ps[W] :: ps.drop (W + 1) := List.drop_eq_getElem_cons hlt
      rw [hd] at hQ
      simp only [dts, List.map_cons, List.cons.injEq] at hQ
      rw [List.take_succ_eq_append_getElem hlt]
      simp only [dts, List.map_append, List.map_cons, List.map_nil, hQ.1]
    unfold enD at e
    rw [e2, pgs_append] at e
    simpa [pgs] using e

set_option maxRecDepth 100000 in
set_option maxHeartbeats 4000000 in
theorem lawSalvage_any (a b : Option Addr) (ca cb' : Nat) (cs ms : List UInt8) (w : World) (hc : LieB w a cs) (hm : LieB w b ms) (hcl : cs.length ≤ maxLen) (hml : ms.length ≤ maxLen) (ht : Steps w) :
    Calls Tryd.prog 5 #[.slice a cs.length ca, .slice b ms.length cb'] w fun e w' => e = .returned (.bool true) ∧ Below w.heap.size w w' := by
  unfold maxLen at hcl hml
  by_cases hb1 : (1048576 : Int) < cs.length
  · go_enter Tryd.func5, Tryd.ntmps5
    go_wp2_with fail
    go_ret
    exact ⟨rfl, Below.refl _ _⟩
  by_cases hb2 : (1048576 : Int) < ms.length
  · go_enter Tryd.func5, Tryd.ntmps5
    go_wp2_with fail
    go_ret
    exact ⟨rfl, Below.refl _ _⟩
  have HD : Hid (Calls Tryd.prog 11 #[.slice a cs.length ca] w fun e w' => ∃ (k : Int) (t : ByteArray), t.size ≤ 2000000 ∧ e = .returned (.tuple #[.int .i64 k, .string t]) ∧ Below w.heap.size w w') := drawFrame_any a ca cs w hc (by omega)
  have HSF : Hid (∀ (k : Int) (p : ByteArray) (w : World), p.size ≤ maxLen → Calls Tryd.prog 12 #[.int .i64 k, .string p] w fun e w' => e = .returned (.string (frT k p)) ∧ Below w.heap.size w w') := specFrame_any
  have HIF : Hid (∀ (k : Int) (p : ByteArray) (w' : World), p.size ≤ maxLen → Below w.heap.size w w' → Calls Tryd.prog 13 #[.int .i64 k, .string p] w' fun e w'' => e = .returned (.string (frT k p)) ∧ Below w'.heap.size w' w'') := fun k p w' h hb => implFrame_any k p w' h (ht.below hb)
  have HP : Hid (∀ (w' : World) (i : Nat), Below w.heap.size w w' → i ≤ 1000000 → Calls Tryd.prog 14 #[.slice b ms.length cb', .int .i64 i] w' fun e w'' => e = .returned (.int .i64 (wp ms i : Nat)) ∧ Below w'.heap.size w' w'') := fun w' i hb h => wPick_any b cb' ms i w' (hm.below hb) (by omega) h
  have HT : Hid (∀ (w' : World) (i : Nat), Below w.heap.size w w' → i ≤ 1000 → Calls Tryd.prog 15 #[.slice b ms.length cb', .int .i64 i] w' fun e w'' => ∃ t : ByteArray, t.size ≤ 150 ∧ e = .returned (.string t) ∧ Below w'.heap.size w' w'') := fun w' i hb h => wText_any b cb' ms i w' (hm.below hb) (by omega) h
  have HL : Hid (∀ (s : ByteArray) (k : Int) (w' : World), s.size ≤ 1048576 → Below w.heap.size w w' → Calls Tryd.prog 17 #[.string s, .int .i64 k] w' fun e w'' => ∃ a cap, e = .returned (.tuple #[.slice a ((rlL s k).map rfB).length cap, .int .i64 (lastN (rlL s k) : Nat)]) ∧ ResS w'' w'.heap.size a ((rlL s k).map rfB) ∧ Below w'.heap.size w' w'') := fun s k w' h hb => by rw [List.length_map]; exact implLog_any s k w' h (ht.below hb)
  have HV : Hid (∀ (s : ByteArray) (k : Int) (w' : World), s.size ≤ 1048576 → Below w.heap.size w w' → Calls Tryd.prog 19 #[.string s, .int .i64 k] w' fun e w'' => ∃ a cap, e = .returned (.slice a (svL s k).length cap) ∧ ResS w'' w'.heap.size a (svL s k) ∧ Below w'.heap.size w' w'') := fun s k w' h hb => implSalv_any s k w' h (ht.below hb)
  have HSm : Hid (∀ (a b : Option Addr) (ca cb' : Nat) (xs : List ByteArray) (w : World), LieS w a xs → LieS w b xs → xs.length ≤ 2000000 → Calls Tryd.prog 18 #[.slice a xs.length ca, .slice b xs.length cb'] w fun e w' => e = .returned (.bool true) ∧ Below w.heap.size w w') := wSameTexts_same
  obtain ⟨i9, hi9, hz90, hz91, hz92⟩ := info_parts str_info
  obtain ⟨i3, hi3, hz30, hz31, hz32⟩ := info_parts int_info'
  have hw0 := wp_le ms 0
  have hw1 := wp_le ms 1
  have hw2 := wp_le ms 2
  have hw3 := wp_le ms 3
  generalize cs.length = lc at *
  generalize ms.length = lm at *
  clear hc hm
  go_enter Tryd.func5, Tryd.ntmps5
  go_wp2_with fail
  refine HD.out.mono ?_
  rintro e w1 ⟨k, p, hp, rfl, hw1b⟩
  have hpm : p.size ≤ maxLen := by unfold maxLen; omega
  go_wp2_with fail
  refine (HSF.out k p _ hpm).mono ?_
  rintro e w2 ⟨rfl, hw2b⟩
  have hbw2 := hw1b.trans (hw2b.mono hw1b.size)
  by_cases hpl : p.size ≤ 4000
  · by_cases hkd : kindOk k = true
    · have hpl' : ¬ (4000 : Int) < p.size := by omega
      obtain ⟨K, rfl⟩ : ∃ K : Nat, k = K := by
        have := kindOk_cases hkd
        exact ⟨k.toNat, by omega⟩
      have hK : K < 256 := by have := kindOk_cases hkd; omega
      have hfT := frT_in (k := (K : Int)) (p := p) hkd (by omega)
      have HG : Hid ((frT K p).data.toList = frB K p.data.toList) := by show _ = _; rw [hfT]; rfl
      obtain ⟨N, hN⟩ : ∃ N, N = pagesN (8 + p.size) := ⟨_, rfl⟩
      have hNb : 1 ≤ N ∧ N ≤ 65 := by rw [hN]; unfold pagesN; omega
      have hGs : (frT K p).size = 64 * N := by rw [← len_data, HG.out, frB_len, len_data, hN]
      clear hfT hN
      generalize hGe : frT K p = G at *
      replace hGe := hd0 hGe
      have hG1 : ((64 * (N : Int)) == 0) = false := by rw [beq_eq_false_iff_ne]; omega
      have hG3 : ¬ 64 * (N : Int) = 0 := by omega
      have hpd : decide ((4000 : Int) < (p.size : Int)) = false := by rw [decide_eq_false_iff_not]; exact hpl'
      replace hkd := hd0 hkd
      go_wp2_with fail
      refine (HP.out w2 0 hbw2 (by omega)).mono ?_
      rintro e w3 ⟨rfl, hb3⟩
      have hbw3 := hbw2.trans (hb3.mono hbw2.size)
      clear hb3 hw2b hw1b hbw2
      obtain ⟨n, hn⟩ : ∃ n : Nat, n = 1 + wp ms 0 % 8 := ⟨_, rfl⟩
      have hnI : 1 + ((wp ms 0 : Nat) : Int) % 8 = n := by omega
      have hn8 : 1 ≤ n ∧ n ≤ 8 := by omega
      replace hn := hd0 hn
      have hs3 := hbw3.size
      have hb3a : Below w.heap.size w (w3.alloc (.cells #[.string p] 9)) := hbw3.alloc hs3 _
      go_wp2_with fail
      refine (HIF.out K p _ hpm hb3a).mono ?_
      rintro e w4 ⟨rfl, hb4⟩
      rw [hGe.out]
      have hbw4 := hb3a.trans (hb4.mono hb3a.size)
      have hx4 : w4.heap[w3.heap.size]? = some (.cells #[.string p] 9 (0, 0)) := (hb4.block w3.heap.size (by simp)).trans (World.heap_alloc_new _ _)
      have hbase : Hid (w.heap.size ≤ w3.heap.size) := hs3
      clear hb4 hb3a hbw3
      have hs4 := hbw4.size
      have hst : Hid (Blt w.heap.size K [p] G (.slice (some ⟨w3.heap.size, 0, none⟩) 1 1) (.slice (some ⟨w4.heap.size, 0, none⟩) 1 1) (w4.alloc (.cells #[.int .i64 0] 3))) := by
        refine ⟨fun q hq => by rw [List.mem_singleton.1 hq]; exact hpl, ?_, ?_, ?_⟩
        · rw [HG.out]; simp [framesL]
        · exact ⟨rfl, .inr ⟨w3.heap.size, 1, #[.string p], rfl, hbase.out, (Below.heap_alloc _ _ _ (heap_lt hx4)).trans hx4, Nat.le_refl _, by decide, rfl, rfl⟩⟩
        · exact ⟨rfl, .inr ⟨w4.heap.size, 1, #[.int .i64 0], rfl, hs4, World.heap_alloc_new _ _, Nat.le_refl _, by decide, rfl, rfl⟩⟩
      have hbw4a : Hid (Below w.heap.size w (w4.alloc (.cells #[.int .i64 0] 3))) := hbw4.alloc hs4 _
      clear hx4 hbw4
      go_wp2_with fail
      go_loopw [8, 9, 10, 11] (fun v sv u i wr => ∃ (ps : List ByteArray) (S : ByteArray), 1 ≤ ps.length ∧ ps.length ≤ n ∧ sv = .string S ∧ i = .int .i64 ps.length ∧ Hid (Blt w.heap.size K ps S v u wr) ∧ Below w.heap.size w wr) (fun _ _ _ i _ => 8 - (intOf i).toNat)
      case atStart => exact ⟨[p], G, Nat.le_refl _, hn8.1, rfl, rfl, hst, hbw4a.out⟩
      case round =>
        obtain ⟨ps, S, hp1, hpn, rfl, rfl, hB, hbr⟩ := hrel
        clear hbw4a hst
        have hS := hB.out.size
        have hpg := pgs_le hB.out.sz
        obtain ⟨M, hM⟩ : ∃ M, M = pgs (dts ps) := ⟨_, rfl⟩
        rw [← hM] at hS hpg
        replace hM := hd0 hM
        by_cases hlt : ps.length < n
        · have hlt' : (ps.length : Int) < n := by omega
          have e31 : Hid ((ps.length : Int) * 31 = ((ps.length * 31 : Nat) : Int)) := by show _ = _; omega
          go_wp2_with fail
          rw [e31.out]
          refine (HT.out wr (ps.length * 31) hbr (by omega)).mono ?_
          rintro e w5 ⟨t, htz, rfl, hb5⟩
          have hbw5 := hbr.trans (hb5.mono hbr.size)
          have hrow5 := owns_below hB.out.row hb5
          have hint5 := owns_below hB.out.ints hb5
          have hs5 := hbw5.size
          clear hb5 hbr
          have HR5 : Hid (World.ownsRow w5 w.heap.size 9 1 _ ps.length (strL ps)) := hrow5
          have HI5 : Hid (World.ownsRow w5 w.heap.size 3 1 _ ps.length (intL (stL ps))) := hint5
          have HB5 : Hid (Below w.heap.size w w5) := hbw5
          have HC5 : Hid (∀ j u, [Value.string t][j]? = some u → (w5.alloc (.cells #[.string t] 9)).cell? ((⟨w5.heap.size, 0, none⟩ : Addr).add j) = some u) := cell_first1 w5 (.string t) 9
          have HS5 : Hid (w.heap.size ≤ (w5.alloc (.cells #[.string t] 9)).heap.size) := by show _ ≤ _; rw [World.size_alloc]; exact Nat.le_succ_of_le hs5
          clear hrow5 hint5 hbw5
          go_upto_region 15 with (at_builtin; refine wpList_append_own _ rfl _ _ 39 rfl w.heap.size 9 i9 _ 1 16 Tryd.underlying39 hi9 hz90 hz91 hz92 rfl (by decide) _ _ _ rfl (HR5.out.alloc _) ⟨w5.heap.size, 0, none⟩ 1 1 [.string t] rfl rfl HC5.out (fun x hx => by simp at hx; subst hx; rfl) (by unfold maxLen; omega) (by omega) HS5.out ?_; intro v' wa hown1 hg1 _)
          have HRa := hd0 hown1
          have HIa := hd0 ((HI5.out.alloc _).kept hg1 (rows_ne HR5.out HI5.out))
          have HBa : Hid (Below w.heap.size w wa) := (HB5.out.alloc hs5 _).grown hg1 HS5.out (owns_base HR5.out)
          have hsa := HBa.out.size
          have HCa : Hid (∀ j u, [Value.int .i64 (64 * (M : Int))][j]? = some u → (wa.alloc (.cells #[.int .i64 (64 * (M : Int))] 3)).cell? ((⟨wa.heap.size, 0, none⟩ : Addr).add j) = some u) := cell_first1 wa _ 3
          have HSa : Hid (w.heap.size ≤ (wa.alloc (.cells #[.int .i64 (64 * (M : Int))] 3)).heap.size) := by show _ ≤ _; rw [World.size_alloc]; exact Nat.le_succ_of_le hsa
          clear hown1 hg1 HR5 HI5 HB5 HC5 HS5
          go_wp2_with (at_builtin; refine wpList_append_own _ rfl _ _ 40 rfl w.heap.size 3 i3 _ 1 8 Tryd.underlying40 hi3 hz30 hz31 hz32 rfl (by decide) _ _ _ rfl (HIa.out.alloc _) ⟨wa.heap.size, 0, none⟩ 1 1 [.int .i64 (64 * (M : Int))] rfl rfl HCa.out (fun x hx => by simp at hx; subst hx; rfl) (by unfold maxLen; omega) (by omega) HSa.out ?_; intro u' wb hown2 hg2 _)
          have HIb := hd0 hown2
          have HRb := hd0 ((HRa.out.alloc _).kept hg2 (rows_ne' HRa.out HIa.out))
          have HBb : Hid (Below w.heap.size w wb) := (HBa.out.alloc hsa _).grown hg2 HSa.out (owns_base HIa.out)
          clear hown2 hg2 HRa HIa HBa HCa HSa
          obtain ⟨N2, hN2a, hN2b, hT2d, hT2s⟩ := frT_facts K t hkd.out (by omega)
          have htm : t.size ≤ maxLen := by unfold maxLen; omega
          refine (HIF.out K t wb htm HBb.out).mono ?_
          rintro e wd ⟨rfl, hbd⟩
          generalize frT K t = T2 at *
          have HRd := hd0 (owns_below HRb.out hbd)
          have HId := hd0 (owns_below HIb.out hbd)
          have HBd : Hid (Below w.heap.size w wd) := HBb.out.trans (hbd.mono HBb.out.size)
          clear hbd HRb HIb HBb
          have hT2l : ¬ 64 * (N2 : Int) < 64 := by omega
          replace hT2d := hd0 hT2d
          have HBlt : Hid (Blt w.heap.size K (ps ++ [t]) (S ++ T2) v' u' wd) := by
            refine ⟨fun q hq => ?_, ?_, ?_, ?_⟩
            · rcases List.mem_append.1 hq with h | h
              · exact hB.out.sz q h
              · rw [List.mem_singleton.1 h]; omega
            · have e : dts (ps ++ [t]) = dts ps ++ [t.data.toList] := by simp
              rw [e, framesL_append, appL, hB.out.dat, hT2d.out]
              simp [framesL]
            · rw [List.length_append, strL_snoc]; exact HRd.out
            · rw [List.length_append, stL_snoc, intL_snoc, ← hM.out]
              have e2 : (((64 * M : Nat)) : Int) = 64 * (M : Int) := by omega
              rw [e2]
              exact HId.out
          go_wp2_with fail
          refine ⟨⟨ps ++ [t], S ++ T2, by simp, by simp; omega, rfl, ?_, HBlt, HBd.out⟩, ?_⟩
          · rw [List.length_append, List.length_singleton]; go_num
          · simp only [intOf]; omega
        · have hlt' : ¬ (ps.length : Int) < n := by omega
          have hpe : ps.length = n := by omega
          have c1 : ¬ 64 * (M : Int) < 64 * (n : Int) := by omega
          have c2 : (64 * (M : Int)) % 64 = 0 := by omega
          have HBr : Hid (Below w.heap.size w wr) := hbr
          clear hbr
          have HPs : Hid (∀ P ∈ dts ps, P.length ≤ 1048576) := dts_small hB.out.sz
          have hpc0 := owns_cap hB.out.row
          obtain ⟨-, pa, pcap, rfl, hres⟩ := resS_of_owns hB.out.row
          have hpc : ps.length ≤ pcap := hpc0 _ _ _ rfl
          clear hpc0
          obtain ⟨sg, scap, rfl, hsgl, hsc⟩ := lieI_of_owns hB.out.ints (by rw [stL_len]; omega)
          rw [stL_len] at hsc
          have HL1 : Hid (∀ w' : World, Below w.heap.size w w' → Calls Tryd.prog 17 #[.string S, .int .i64 K] w' fun e w'' => ∃ a cap, e = .returned (.tuple #[.slice a ps.length cap, .int .i64 M]) ∧ ResS w'' w'.heap.size a ps ∧ Below w'.heap.size w' w'') := fun w' hb => by
            have e1 : rlL S K = mkF K 0 (dts ps) := rl_frames (by rw [List.append_nil]; exact frs_whole hB.out.dat hkd.out hK HPs.out) (.inl rfl)
            have e2 : (rlL S K).map rfB = ps := by rw [e1, mkF_texts, dts_back]
            have e3 : lastN (rlL S K) = M := by rw [e1, mkF_last K _ 0 (dts_ne hp1), Nat.zero_add, ← hM.out]
            have h := HL.out S K w' (by omega) hb
            rw [e2, e3] at h
            exact h
          have HLie : Hid (LieS wr pa ps) := hres.lie
          have HSc : Hid (∀ i, i < ps.length → wr.cell? ⟨sg, i, none⟩ = some (.int .i64 ((stL ps).getD i 0 : Nat))) := hsc
          have c3 : ((M : Int) * 64 != 64 * (M : Int)) = false := by rw [bne_eq_false_iff_eq]; omega
          clear hres hsc
          replace hpe := hd0 hpe
          go_wp2_with fail
          refine (HL1.out wr HBr.out).mono ?_
          rintro e w6 ⟨ga, gcap, rfl, hr6, hb6⟩
          have HB6 : Hid (Below w.heap.size w w6) := HBr.out.trans (hb6.mono HBr.out.size)
          have HL6 : Hid (LieS w6 pa ps) := HLie.out.below hb6
          have HS6 : Hid (∀ i, i < ps.length → w6.cell? ⟨sg, i, none⟩ = some (.int .i64 ((stL ps).getD i 0 : Nat))) := fun i hi => (hb6.cell (p := ⟨sg, i, none⟩) hsgl).trans (HSc.out i hi)
          have hsg6 : sg < w6.heap.size := Nat.lt_of_lt_of_le hsgl hb6.size
          have hr6l : Hid (LieS w6 ga ps) := hr6.lie
          clear hb6 hr6 HBr HLie HSc hsgl
          go_wp2_with fail
          refine (HSm.out ga pa gcap pcap ps w6 hr6l.out HL6.out (by omega)).mono ?_
          rintro e w7 ⟨rfl, hb7⟩
          have HB7 : Hid (Below w.heap.size w w7) := HB6.out.trans (hb7.mono HB6.out.size)
          have HL7 : Hid (LieS w7 pa ps) := HL6.out.below hb7
          have HS7 : Hid (∀ i, i < ps.length → w7.cell? ⟨sg, i, none⟩ = some (.int .i64 ((stL ps).getD i 0 : Nat))) := fun i hi => (hb7.cell (p := ⟨sg, i, none⟩) hsg6).trans (HS6.out i hi)
          have hsg7 : sg < w7.heap.size := Nat.lt_of_lt_of_le hsg6 hb7.size
          clear hb7 HB6 HL6 HS6 hsg6 hr6l
          go_wp2_with fail
          refine (HP.out w7 1 HB7.out (by omega)).mono ?_
          rintro e w8 ⟨rfl, hb8⟩
          have HB8 : Hid (Below w.heap.size w w8) := HB7.out.trans (hb8.mono HB7.out.size)
          have HL8 : Hid (LieS w8 pa ps) := HL7.out.below hb8
          have HS8 : Hid (∀ i, i < ps.length → w8.cell? ⟨sg, i, none⟩ = some (.int .i64 ((stL ps).getD i 0 : Nat))) := fun i hi => (hb8.cell (p := ⟨sg, i, none⟩) hsg7).trans (HS7.out i hi)
          have hsg8 : sg < w8.heap.size := Nat.lt_of_lt_of_le hsg7 hb8.size
          clear hb8 HB7 HL7 HS7 hsg7
          go_wp2_with fail
          refine (HP.out w8 2 HB8.out (by omega)).mono ?_
          rintro e w9 ⟨rfl, hb9⟩
          have HB9 : Hid (Below w.heap.size w w9) := HB8.out.trans (hb9.mono HB8.out.size)
          have HL9 : Hid (LieS w9 pa ps) := HL8.out.below hb9
          have HS9 : Hid (∀ i, i < ps.length → w9.cell? ⟨sg, i, none⟩ = some (.int .i64 ((stL ps).getD i 0 : Nat))) := fun i hi => (hb9.cell (p := ⟨sg, i, none⟩) hsg8).trans (HS8.out i hi)
          have hsg9 : sg < w9.heap.size := Nat.lt_of_lt_of_le hsg8 hb9.size
          clear hb9 HB8 HL8 HS8 hsg8
          obtain ⟨c, hc⟩ : ∃ c : Nat, c = (wp ms 1 * 256 + wp ms 2) % (64 * M + 1) := ⟨_, rfl⟩
          have hcI : (((wp ms 1 : Nat) : Int) * 256 + (wp ms 2 : Nat)) % (64 * (M : Int) + 1) = c := by
            rw [hc]
            push_cast
            rfl
          have hcl : c ≤ 64 * M := by rw [hc]; exact Nat.le_of_lt_succ (Nat.mod_lt _ (Nat.succ_pos _))
          replace hc := hd0 hc
          have hEn : Hid (enD ps n = 64 * M) := by show _ = _; rw [← hpe.out, enD_all, ← hM.out]
          go_wp2_with fail
          rw [hcI]
          clear hcI
          go_loopw [17, 18] (fun wv i wr => ∃ (W i0 : Nat), W ≤ i0 ∧ i0 ≤ n ∧ wv = .int .i64 W ∧ i = .int .i64 i0 ∧ Hid (enD ps W ≤ c) ∧ Hid (∀ j, W < j → j ≤ i0 → c < enD ps j) ∧ Hid (Below w9.heap.size w9 wr)) (fun _ i _ => 8 - (intOf i).toNat)
          case atStart => exact ⟨0, 0, Nat.le_refl _, Nat.zero_le _, rfl, rfl, (by show _ ≤ _; simp [enD, pgs]), (fun j h1 h2 => absurd h1 (by omega)), Below.refl _ _⟩
          case round =>
            obtain ⟨W, i0, hWi, hin, rfl, rfl, hE1, hE2, hbr⟩ := hrel
            by_cases hlt : i0 < n
            · have hlt' : (i0 : Int) < n := by omega
              by_cases hl1 : i0 + 1 < n
              · have c0 : Hid (wr.cell? ⟨sg, i0 + 1, none⟩ = some (.int .i64 (enD ps (i0 + 1) : Nat))) := by
                  show _ = _
                  rw [hbr.out.cell (p := ⟨sg, i0 + 1, none⟩) hsg9, HS9.out (i0 + 1) (by rw [hpe.out]; exact hl1), stL_at _ _ (by rw [hpe.out]; exact hl1)]
                have hc0 := c0.out
                have hpl2 : (i0 : Int) + 1 < (ps.length : Int) := by rw [hpe.out]; omega
                have d1 : decide ((i0 : Int) + 1 < (n : Int)) = true := by rw [decide_eq_true_iff]; omega
                have d3 : ((i0 : Int) + 1 == (n : Int)) = false := by rw [beq_eq_false_iff_ne]; omega
                obtain ⟨E, hE⟩ : ∃ E, E = enD ps (i0 + 1) := ⟨_, rfl⟩
                rw [← hE] at hc0
                replace hE := hd0 hE
                clear c0
                by_cases hle : E ≤ c
                · have d2 : decide ((E : Int) ≤ (c : Int)) = true := by rw [decide_eq_true_iff]; omega
                  have d2' : (E : Int) ≤ (c : Int) := by omega
                  have HY1 : Hid (enD ps (i0 + 1) ≤ c) := by show _ ≤ _; rw [← hE.out]; exact hle
                  go_wp2_with fail
                  exact ⟨⟨i0 + 1, i0 + 1, Nat.le_refl _, hlt, by go_num, by go_num, HY1, (fun j h1 h2 => absurd h1 (Nat.not_lt.2 h2)), hbr⟩, by simp only [intOf]; omega⟩
                · have d2 : decide ((E : Int) ≤ (c : Int)) = false := by rw [decide_eq_false_iff_not]; omega
                  have d2' : ¬ (E : Int) ≤ (c : Int) := by omega
                  have HN1 : Hid (∀ j, W < j → j ≤ i0 + 1 → c < enD ps j) := ends_more hE2.out (by rw [← hE.out]; omega)
                  go_wp2_with fail
                  exact ⟨⟨W, i0 + 1, Nat.le_succ_of_le hWi, hlt, rfl, by go_num, hE1, HN1, hbr⟩, by simp only [intOf]; omega⟩
              · have hl2 : i0 + 1 = n := by omega
                have d1 : decide ((i0 : Int) + 1 < (n : Int)) = false := by rw [decide_eq_false_iff_not]; omega
                have d1' : ¬ (i0 : Int) + 1 < (n : Int) := by omega
                have d3 : ((i0 : Int) + 1 == (n : Int)) = true := by rw [beq_iff_eq]; omega
                have hE : Hid (64 * M = enD ps (i0 + 1)) := by show _ = _; rw [hl2, hEn.out]
                by_cases hle : 64 * M ≤ c
                · have d2 : decide (64 * (M : Int) ≤ (c : Int)) = true := by rw [decide_eq_true_iff]; omega
                  have d2' : 64 * (M : Int) ≤ (c : Int) := by omega
                  have HY1 : Hid (enD ps (i0 + 1) ≤ c) := by show _ ≤ _; rw [← hE.out]; exact hle
                  replace hl2 := hd0 hl2
                  go_wp2_with fail
                  exact ⟨⟨i0 + 1, i0 + 1, Nat.le_refl _, hlt, by go_num, by go_num, HY1, (fun j h1 h2 => absurd h1 (Nat.not_lt.2 h2)), hbr⟩, by simp only [intOf]; omega⟩
                · have d2 : decide (64 * (M : Int) ≤ (c : Int)) = false := by rw [decide_eq_false_iff_not]; omega
                  have d2' : ¬ 64 * (M : Int) ≤ (c : Int) := by omega
                  have HN1 : Hid (∀ j, W < j → j ≤ i0 + 1 → c < enD ps j) := ends_more hE2.out (by rw [← hE.out]; omega)
                  replace hl2 := hd0 hl2
                  go_wp2_with fail
                  exact ⟨⟨W, i0 + 1, Nat.le_succ_of_le hWi, hlt, rfl, by go_num, hE1, HN1, hbr⟩, by simp only [intOf]; omega⟩
            · have hlt' : ¬ (i0 : Int) < n := by omega
              obtain rfl : i0 = n := by omega
              have HBr : Hid (Below w.heap.size w wr) := HB9.out.trans (hbr.out.mono HB9.out.size)
              have HLr : Hid (LieS wr pa ps) := HL9.out.below hbr.out
              have HSr : Hid (∀ i, i < ps.length → wr.cell? ⟨sg, i, none⟩ = some (.int .i64 ((stL ps).getD i 0 : Nat))) := fun i hi => (hbr.out.cell (p := ⟨sg, i, none⟩) hsg9).trans (HS9.out i hi)
              have hsgr : sg < wr.heap.size := Nat.lt_of_lt_of_le hsg9 hbr.out.size
              have HL2 : Hid (∀ w' : World, Below w.heap.size w w' → Calls Tryd.prog 17 #[.string (S.extract 0 c), .int .i64 K] w' fun e w'' => ∃ (a : Option Addr) (cap q : Nat), e = .returned (.tuple #[.slice a W cap, .int .i64 q]) ∧ LieS w'' a (ps.take W) ∧ Below w'.heap.size w' w'') := fun w' hb => by
                have hWp : W ≤ ps.length := by rw [hpe.out]; exact hWi
                have e1 : rlL (S.extract 0 c) K = mkF K 0 (dts (ps.take W)) := cut_read hB.out hkd.out hK hWp hE1.out (fun j h1 h2 => hE2.out j h1 (by rw [← hpe.out]; exact h2)) (by rw [← hM.out]; exact hcl)
                have e2 : (rlL (S.extract 0 c) K).map rfB = ps.take W := by rw [e1, mkF_texts, dts_back]
                have h := HL.out (S.extract 0 c) K w' (by rw [ByteArray.size_extract]; omega) hb
                rw [e2, List.length_take, Nat.min_eq_left hWp] at h
                refine h.mono ?_
                rintro e w'' ⟨a, cap, rfl, hr, hb2⟩
                exact ⟨a, cap, _, rfl, hr.lie, hb2⟩
              have hcI1 : (c : Int) ≤ 64 * (M : Int) := by omega
              clear HB9 HL9 HS9 hsg9 hbr
              have HW : Hid (W ≤ ps.length) := by show _ ≤ _; rw [hpe.out]; exact hWi
              have hWc : (W : Int) ≤ (pcap : Int) := Int.ofNat_le.2 (Nat.le_trans HW.out hpc)
              go_wp2_with fail
              refine (HL2.out wr HBr.out).mono ?_
              rintro e x1 ⟨g2, gc2, q2, rfl, hr2, hbx1⟩
              have HBx1 : Hid (Below w.heap.size w x1) := HBr.out.trans (hbx1.mono HBr.out.size)
              have HLx1 : Hid (LieS x1 pa ps) := HLr.out.below hbx1
              have HSx1 : Hid (∀ i, i < ps.length → x1.cell? ⟨sg, i, none⟩ = some (.int .i64 ((stL ps).getD i 0 : Nat))) := fun i hi => (hbx1.cell (p := ⟨sg, i, none⟩) hsgr).trans (HSr.out i hi)
              have hsg1 : sg < x1.heap.size := Nat.lt_of_lt_of_le hsgr hbx1.size
              have HSm2 : Hid (Calls Tryd.prog 18 #[.slice g2 W gc2, .slice pa W pcap] x1 fun e w' => e = .returned (.bool true) ∧ Below x1.heap.size x1 w') := by
                have h := HSm.out g2 pa gc2 pcap (ps.take W) x1 hr2 (HLx1.out.take W) (by rw [List.length_take]; omega)
                rw [List.length_take, Nat.min_eq_left HW.out] at h
                exact h
              clear hbx1 HBr HLr HSr hsgr hr2 HL2 HL1
              go_wp2_with fail
              refine HSm2.out.mono ?_
              rintro e x2 ⟨rfl, hbx2⟩
              have HBx2 : Hid (Below w.heap.size w x2) := HBx1.out.trans (hbx2.mono HBx1.out.size)
              have HLx2 : Hid (LieS x2 pa ps) := HLx1.out.below hbx2
              have HSx2 : Hid (∀ i, i < ps.length → x2.cell? ⟨sg, i, none⟩ = some (.int .i64 ((stL ps).getD i 0 : Nat))) := fun i hi => (hbx2.cell (p := ⟨sg, i, none⟩) hsg1).trans (HSx1.out i hi)
              have hsg2 : sg < x2.heap.size := Nat.lt_of_lt_of_le hsg1 hbx2.size
              clear hbx2 HBx1 HLx1 HSx1 hsg1 HSm2
              go_wp2_with fail
              refine (HP.out x2 3 HBx2.out (by omega)).mono ?_
              rintro e x3 ⟨rfl, hbx3⟩
              have HBx3 : Hid (Below w.heap.size w x3) := HBx2.out.trans (hbx3.mono HBx2.out.size)
              have HLx3 : Hid (LieS x3 pa ps) := HLx2.out.below hbx3
              have HSx3 : Hid (∀ i, i < ps.length → x3.cell? ⟨sg, i, none⟩ = some (.int .i64 ((stL ps).getD i 0 : Nat))) := fun i hi => (hbx3.cell (p := ⟨sg, i, none⟩) hsg2).trans (HSx2.out i hi)
              clear hbx3 HBx2 HLx2 HSx2 hsg2
              obtain ⟨gn, hgn⟩ : ∃ gn : Nat, gn = wp ms 3 % i0 := ⟨_, rfl⟩
              have hgI : ((wp ms 3 : Nat) : Int) % (i0 : Int) = gn := by rw [hgn]; rfl
              have hgl : gn < i0 := by rw [hgn]; exact Nat.mod_lt _ (by omega)
              have hgp : gn < ps.length := by rw [hpe.out]; exact hgl
              have hgpI : (gn : Int) < (ps.length : Int) := Int.ofNat_lt.2 hgp
              obtain ⟨E0, hE0⟩ : ∃ E0, E0 = enD ps gn := ⟨_, rfl⟩
              have hE64 : E0 + 64 ≤ 64 * M := by rw [hE0, hM.out]; exact enD_room ps gn hgp
              have cE : x3.cell? ⟨sg, gn, none⟩ = some (.int .i64 (E0 : Nat)) := by rw [HSx3.out gn hgp, stL_at _ _ hgp, ← hE0]
              have hi0I : (0 : Int) < (i0 : Int) := by omega
              replace hgn := hd0 hgn
              replace hE0 := hd0 hE0
              obtain ⟨n1, n2, n3, n4, n5, n6, n7, n8⟩ := hurt_nums E0 M hE64 (by omega)
              have hHs : Hid ((S.extract 0 E0 ++ ⟨#[0]⟩ ++ S.extract (E0 + 1) (64 * M)).size ≤ 1048576) := hurt_size hS hE64 (by omega)
              obtain ⟨HSV, HRL⟩ := hurt_read hB.out hkd.out hK gn E0 (64 * M) hgp hE0.out hS.symm
              have HL3 : Hid (∀ w' : World, Below w.heap.size w w' → Calls Tryd.prog 17 #[.string (S.extract 0 E0 ++ ⟨#[0]⟩ ++ S.extract (E0 + 1) (64 * M)), .int .i64 K] w' fun e w'' => ∃ (a : Option Addr) (cap q : Nat), e = .returned (.tuple #[.slice a gn cap, .int .i64 q]) ∧ LieS w'' a (ps.take gn) ∧ Below w'.heap.size w' w'') := fun w' hb => by
                have h := HL.out _ K w' hHs.out hb
                rw [HRL, List.length_take, Nat.min_eq_left (Nat.le_of_lt hgp)] at h
                refine h.mono ?_
                rintro e w'' ⟨a, cap, rfl, hr, hb2⟩
                exact ⟨a, cap, _, rfl, hr.lie, hb2⟩
              have HV3 : Hid (∀ w' : World, Below w.heap.size w w' → Calls Tryd.prog 19 #[.string (S.extract 0 E0 ++ ⟨#[0]⟩ ++ S.extract (E0 + 1) (64 * M)), .int .i64 K] w' fun e w'' => ∃ (a : Option Addr) (cap : Nat), e = .returned (.slice a (keepL ps gn i0).length cap) ∧ LieS w'' a (keepL ps gn i0) ∧ Below w'.heap.size w' w'') := fun w' hb => by
                have h := HV.out _ K w' hHs.out hb
                rw [HSV, ← keepL_all ps gn hgp, hpe.out] at h
                refine h.mono ?_
                rintro e w'' ⟨a, cap, rfl, hr, hb2⟩
                exact ⟨a, cap, rfl, hr.lie, hb2⟩
              clear HSV HRL
              go_upto_region 36 with fail
              rw [hgI]
              clear hgI
              go_quiet (fail)
              go_wp2_with fail
              obtain ⟨pb, rfl, hpbl, hpcs⟩ : ∃ g, pa = some ⟨g, 0, none⟩ ∧ g < x3.heap.size ∧ ∀ i, i < ps.length → x3.cell? ⟨g, i, none⟩ = some (.string (ps.getD i ByteArray.empty)) := by
                rcases HLx3.out with h | h
                · exact absurd hgp (by rw [h]; simp)
                · exact h
              have HPc : Hid (∀ i, i < ps.length → x3.cell? ⟨pb, i, none⟩ = some (.string (ps.getD i ByteArray.empty))) := hpcs
              clear hpcs cE HSx3
              go_loopw [21, 22] (fun v i wr => ∃ j : Nat, j ≤ i0 ∧ i = .int .i64 j ∧ Hid (wr.ownsRow x3.heap.size 9 1 v (keepL ps gn j).length (strL (keepL ps gn j))) ∧ Hid (Below x3.heap.size x3 wr)) (fun _ i _ => 8 - (intOf i).toNat)
              case atStart => exact ⟨0, Nat.zero_le _, rfl, ⟨rfl, .inr ⟨x3.heap.size, 0, #[], rfl, Nat.le_refl _, World.heap_alloc_new (x3.drewN nq) _, Nat.le_refl _, Nat.zero_le _, rfl, rfl⟩⟩, ⟨rfl, rfl, rfl, by show _ ≤ _; simp [World.drewN], fun k hk => Below.heap_alloc (x3.drewN nq) _ k hk⟩⟩
              case round =>
                obtain ⟨j, hj, rfl, hown, hbr⟩ := hrel
                by_cases hlt : j < i0
                · have hlt' : (j : Int) < i0 := by omega
                  have hjp : j < ps.length := by rw [hpe.out]; exact hlt
                  have hjpI : (j : Int) < (ps.length : Int) := Int.ofNat_lt.2 hjp
                  by_cases hjg : j = gn
                  · have d1 : ((j : Int) != (gn : Int)) = false := by rw [hjg]; simp
                    have hk1 : Hid (keepL ps gn (j + 1) = keepL ps gn j) := by show _ = _; simp only [keepL]; rw [if_pos hjg]
                    have hjg' := hd0 hjg
                    clear hjg
                    go_wp2_with fail
                    refine ⟨⟨j + 1, hlt, by go_num, ?_, hbr⟩, by simp only [intOf]; omega⟩
                    rw [hk1.out]
                    exact hown
                  · have d1 : ((j : Int) != (gn : Int)) = true := by rw [bne_iff_ne]; omega
                    have hk1 : Hid (keepL ps gn (j + 1) = keepL ps gn j ++ [ps.getD j ByteArray.empty]) := by show _ = _; simp only [keepL]; rw [if_neg hjg]
                    have cP : wr.cell? ⟨pb, j, none⟩ = some (.string (ps.getD j ByteArray.empty)) := (hbr.out.cell (p := ⟨pb, j, none⟩) hpbl).trans (HPc.out j hjp)
                    have hkl := keepL_len ps gn j
                    have hjg' := hd0 hjg
                    clear hjg
                    generalize ps.getD j ByteArray.empty = x at *
                    have HC : Hid (∀ j u, [Value.string x][j]? = some u → (wr.alloc (.cells #[.string x] 9)).cell? ((⟨wr.heap.size, 0, none⟩ : Addr).add j) = some u) := cell_first1 wr (.string x) 9
                    have HSr : Hid (x3.heap.size ≤ (wr.alloc (.cells #[.string x] 9)).heap.size) := by show _ ≤ _; rw [World.size_alloc]; exact Nat.le_succ_of_le hbr.out.size
                    go_wp2_with (at_builtin; refine wpList_append_own _ rfl _ _ 39 rfl x3.heap.size 9 i9 _ 1 16 Tryd.underlying39 hi9 hz90 hz91 hz92 rfl (by decide) _ _ _ rfl (hown.out.alloc _) ⟨wr.heap.size, 0, none⟩ 1 1 [.string x] rfl rfl HC.out (fun x hx => by simp at hx; subst hx; rfl) (by unfold maxLen; omega) (by omega) HSr.out ?_; intro v' wa hown1 hg1 _)
                    refine ⟨⟨j + 1, hlt, by go_num, ?_, ?_⟩, by simp only [intOf]; omega⟩
                    · rw [hk1.out, List.length_append, strL_snoc]
                      exact hown1
                    · exact (hbr.out.alloc hbr.out.size _).grown hg1 HSr.out (owns_base hown.out)
                · have hlt' : ¬ (j : Int) < i0 := by omega
                  obtain rfl : j = i0 := by omega
                  obtain ⟨-, ra, rcap, rfl, hresr⟩ := resS_of_owns hown.out
                  have HBr : Hid (Below w.heap.size w wr) := HBx3.out.trans (hbr.out.mono HBx3.out.size)
                  have HLr : Hid (LieS wr (some ⟨pb, 0, none⟩) ps) := HLx3.out.below hbr.out
                  have HRr : Hid (LieS wr ra (keepL ps gn j)) := hresr.lie
                  have hgc : (gn : Int) ≤ (pcap : Int) := Int.ofNat_le.2 (Nat.le_trans (Nat.le_of_lt hgp) hpc)
                  have hkl := keepL_len ps gn j
                  clear hown hbr hresr HLx3 HBx3 HPc
                  go_wp2_with fail
                  refine (HL3.out wr HBr.out).mono ?_
                  rintro e y1 ⟨g3, gc3, q3, rfl, hr3, hby1⟩
                  have HBy1 : Hid (Below w.heap.size w y1) := HBr.out.trans (hby1.mono HBr.out.size)
                  have HRy1 : Hid (LieS y1 ra (keepL ps gn j)) := HRr.out.below hby1
                  have HSm3 : Hid (Calls Tryd.prog 18 #[.slice g3 gn gc3, .slice (some ⟨pb, 0, none⟩) gn pcap] y1 fun e w' => e = .returned (.bool true) ∧ Below y1.heap.size y1 w') := by
                    have h := HSm.out g3 (some ⟨pb, 0, none⟩) gc3 pcap (ps.take gn) y1 hr3 ((HLr.out.below hby1).take gn) (by rw [List.length_take]; omega)
                    rw [List.length_take, Nat.min_eq_left (Nat.le_of_lt hgp)] at h
                    exact h
                  clear hby1 HBr HRr HLr hr3 HL3
                  go_wp2_with fail
                  refine HSm3.out.mono ?_
                  rintro e y2 ⟨rfl, hby2⟩
                  have HBy2 : Hid (Below w.heap.size w y2) := HBy1.out.trans (hby2.mono HBy1.out.size)
                  have HRy2 : Hid (LieS y2 ra (keepL ps gn j)) := HRy1.out.below hby2
                  clear hby2 HBy1 HRy1 HSm3
                  go_wp2_with fail
                  refine (HV3.out y2 HBy2.out).mono ?_
                  rintro e y3 ⟨g4, gc4, rfl, hr4, hby3⟩
                  have HBy3 : Hid (Below w.heap.size w y3) := HBy2.out.trans (hby3.mono HBy2.out.size)
                  have HRy3 : Hid (LieS y3 ra (keepL ps gn j)) := HRy2.out.below hby3
                  clear hby3 HBy2 HRy2
                  go_wp2_with fail
                  refine (HSm.out g4 ra gc4 rcap (keepL ps gn j) y3 hr4 HRy3.out (by omega)).mono ?_
                  rintro e y4 ⟨rfl, hby4⟩
                  go_wp2_with fail
                  go_ret
                  exact ⟨rfl, HBy3.out.trans (hby4.mono HBy3.out.size)⟩
    · have hfT : frT k p = ⟨#[]⟩ := frT_out (fun h => hkd h.1)
      rw [hfT]
      go_wp2_with fail
      go_ret
      exact ⟨rfl, hbw2⟩
  · have hpl' : (4000 : Int) < p.size := by omega
    generalize frT k p = T at *
    by_cases hz : T.size = 0
    · have hz' : ((T.size : Int) == 0) = true := by rw [hz]; rfl
      go_wp2_with fail
      go_ret
      exact ⟨rfl, hbw2⟩
    · have hz' : ((T.size : Int) == 0) = false := by rw [beq_eq_false_iff_ne]; omega
      go_wp2_with fail
      go_ret
      exact ⟨rfl, hbw2⟩
end Go.Proofs.YtfbmplecmaebbacDoor
