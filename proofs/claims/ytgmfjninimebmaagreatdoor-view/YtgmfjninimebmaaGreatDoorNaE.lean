import Derived.Test.YtgmfjninimebmaaGreatDoorMgNaC

import Derived.Sort.QuietIn
import Derived.BigRegionIn
namespace Go.Proofs.YtgmfjninimebmaaGreatDoor
open Go.RowKit Go.Maps Go.Shelf
attribute [local go_sem] Oper.semAt_some
set_option linter.unusedVariables false
set_option linter.unusedSimpArgs false

theorem source_info : (Tryz.prog.info? 132).map (fun i => (i.zero, i.size, i.bytes)) = some (some .nilFunc, 1, 8) := by kernel_rfl
theorem LieSS.at {w : World} {a : Option Addr} {L : List LV} (h : LieSS w a L) {i : Nat} (hi : i < L.length) : ∃ b off, a = some ⟨b, off, none⟩ ∧ b < w.heap.size ∧ w.cell? ⟨b, off + i, none⟩ = some (.slice (L.getD i lv0).a (L.getD i lv0).xs.length (L.getD i lv0).cap) ∧ LieE w (L.getD i lv0).a (L.getD i lv0).xs := by
  rcases h with rfl | ⟨b, off, rfl, hlt, hc⟩
  · simp at hi
  · obtain ⟨h1, h2⟩ := hc i hi
    exact ⟨b, off, rfl, hlt, h1, h2⟩
theorem LieE.blk {w : World} {a : Option Addr} {xs : List En} (h : LieE w a xs) (hn : xs ≠ []) : ∃ b off, a = some ⟨b, off, none⟩ ∧ b < w.heap.size := by
  rcases h with h | ⟨b, off, h1, h2, -⟩
  · exact absurd h hn
  · exact ⟨b, off, h1, h2⟩
theorem cell_first1N (w : World) (x : Value) (t : TypeId) : ∀ j u, [x][j]? = some u → (w.alloc (.cells #[x] t)).cell? ((⟨w.heap.size, 0, none⟩ : Addr).add j) = some u := by
  intro j v hj
  rw [Go.WideShapes.add_plain]
  match j, hj with
  | 0, hj => simp at hj; subst hj; simp
theorem lieS_of_owns {W : World} {B k : Nat} {v : Value} {cs : List SD} (h : W.ownsRow B 132 1 v k (cs.map SD.fn)) (hk : cs.length = k) : ∃ a cap, v = .slice a k cap ∧ LieSE W a cs := by
  rcases h.2 with ⟨rfl, h0⟩ | ⟨g, cap, cur, rfl, hg, hb, hl, hm, hsz, htk⟩
  · subst h0
    exact ⟨none, 0, rfl, .inl (List.length_eq_zero_iff.1 hk)⟩
  · refine ⟨_, cap, rfl, .inr ⟨g, 0, rfl, heap_lt hb, fun p hp => ?_⟩⟩
    have e1 : (cur.toList.take (k * 1))[p]? = (cs.map SD.fn)[p]? := by rw [htk]
    rw [List.getElem?_take_of_lt (by omega), List.getElem?_map, List.getElem?_eq_getElem hp] at e1
    have e2 : cs.getD p sd0 = cs[p] := by simp [List.getD, hp]
    simp only [World.cell?, hb, Nat.zero_add, e2]
    simpa using e1
/-- The box of the newest, and their row. -/
structure NwB (w : World) (B0 : Nat) (acc : List En) (v : Value) (W : World) : Prop where
  hv : W.heap[B0 + 1]? = some (.cells #[v] 26 (0, 0))
  row : W.ownsRow B0 50 4 v acc.length (cellsE acc)
  bel : Below w.heap.size w W
theorem NwB.ne {w : World} {B0 : Nat} {acc : List En} {v : Value} {W : World} (h : NwB w B0 acc v W) : ∀ g, v.ownBlock = some g → B0 ≤ g ∧ g ≠ B0 + 1 ∧ ∃ cur, W.heap[g]? = some (.cells cur 50 (0, 0)) := fun g e => by
  rcases h.row.2 with ⟨rfl, h0⟩ | ⟨g', cap, cur, rfl, hg, hb, _⟩
  · cases e
  · cases e
    refine ⟨hg, fun e2 => ?_, cur, hb⟩
    have e2' : g' = B0 + 1 := e2
    rw [e2', h.hv] at hb
    injection hb with hb
    injection hb with h1 h2
    exact absurd h2 (by decide)
theorem NwB.keep {w : World} {B0 : Nat} {acc : List En} {v : Value} {W W' : World} (h : NwB w B0 acc v W) (h1 : W'.heap[B0 + 1]? = W.heap[B0 + 1]?) (h2 : ∀ g cur, W.heap[g]? = some (.cells cur 50 (0, 0)) → B0 ≤ g → W'.heap[g]? = W.heap[g]?) (h3 : Below w.heap.size w W') : NwB w B0 acc v W' :=
  ⟨h1.trans h.hv, owns_keepB h.row (fun g hg => by obtain ⟨e1, -, cur, e3⟩ := h.ne g hg; exact h2 g cur e3 e1), h3⟩
def NwI (w : World) (B0 : Nat) (pre : List En) (W : World) : Prop := ∃ v, NwB w B0 (nwF pre) v W
theorem nwI_own (w : World) (B0 B : Nat) (hB : w.heap.size ≤ B) : OwnFrom B (NwI w B0) := fun pre W W' row ⟨v, h⟩ hg hr => by
  have hc : ∀ (g : Nat) (o : Obj), W.heap[g]? = some o → o.isCells = true → W'.heap[g]? = W.heap[g]? := fun g o ho hoc => hg.block g (heap_lt ho) (fun e => by
    obtain ⟨-, o', h1, h2⟩ := hr g e.symm
    rw [ho] at h1
    cases h1
    rw [hoc] at h2
    cases h2)
  refine ⟨v, h.keep (hc _ _ h.hv rfl) (fun g cur e _ => hc _ _ e rfl) ?_⟩
  exact h.bel.grown hg h.bel.size (fun k e => by have := (hr k e).1; omega)
theorem nwI_it {w : World} {B0 : Nat} {cs : List SD} (hw : w.heap.size ≤ B0) (hlo : ∀ p, p < cs.length → w.heap.size ≤ (cs.getD p sd0).pa) (hpa : ∀ p, p < cs.length → (cs.getD p sd0).pa < B0) {pre : List En} {W W' : World} (h : NwI w B0 pre W) (hi : ItW B0 cs W W') : NwI w B0 pre W' := by
  obtain ⟨v, h⟩ := h
  refine ⟨v, h.keep (hi.block _ (heap_lt h.hv) (fun p hp => by have := hpa p hp; omega) (.inr ?_)) (fun g cur e hg => hi.block g (heap_lt e) (fun p hp => by have := hpa p hp; omega) (.inr ?_)) ?_⟩
  · rw [h.hv]
    rintro ⟨arr, t, fr, e, ht⟩
    injection e with e
    injection e with e1 e2
    subst e2
    rcases ht with ht | ht <;> exact absurd ht (by decide)
  · rw [e]
    rintro ⟨arr, t, fr, e, ht⟩
    injection e with e
    injection e with e1 e2
    subst e2
    rcases ht with ht | ht <;> exact absurd ht (by decide)
  · exact h.bel.trans ⟨hi.os, hi.tape, hi.output, hi.size, fun j hj => hi.block j (by have := h.bel.size; omega) (fun p hp => by have := hlo p hp; omega) (.inl (by omega))⟩
theorem frT_putObj {W : World} {l : Nat} {r : Loop} (o' : Obj) (h : W.heap[l]? = some (.loop r)) {B0 : Nat} (hB : B0 ≤ l) : KM B0 W (W.putObj l o') := by
  refine ⟨by rw [World.putObj_size]; exact Nat.le_refl _, fun k hk => World.putObj_heap_other (by omega), fun k hk => World.putObj_heap_other (fun e => ?_)⟩
  subst e
  obtain ⟨arr, t, fr, e, -⟩ := hk
  rw [h] at e
  cases e
theorem not_frT {W : World} {k : Nat} {cur : Array Value} {t : TypeId} {fr : Nat × Nat} (h : W.heap[k]? = some (.cells cur t fr)) (h1 : t ≠ 184) (h2 : t ≠ 186) : ¬ FrT W.heap[k]? := by
  rw [h]
  rintro ⟨arr, t', fr', e, ht⟩
  injection e with e
  injection e with e1 e2
  subst e2
  rcases ht with ht | ht
  · exact h1 ht
  · exact h2 ht
/-- One entry more. -/
theorem NwB.app {w : World} {B0 : Nat} {acc : List En} {v v8 : Value} {W W1 w8 : World} {x : En} {B : Nat} (h : NwB w B0 acc v W) (hw : w.heap.size ≤ B0) (h1 : Below W.heap.size W W1) (hg : W1.grownBy w8 v.ownBlock) (hat : v8.ownBlock = v.ownBlock ∨ v8.ownBlock = some W1.heap.size)
    (hown : w8.ownsRow B0 50 4 v8 (acc.length + 1) (cellsE acc ++ [.string x.ky, .int .i64 x.sq, .int .i64 x.kd, .string x.vl])) :
    KeepsFrom B W (w8.setCell ⟨B0 + 1, 0, none⟩ v8) ∧ KM B0 W (w8.setCell ⟨B0 + 1, 0, none⟩ v8) ∧ NwB w B0 (acc ++ [x]) v8 (w8.setCell ⟨B0 + 1, 0, none⟩ v8) := by
  have hb := heap_lt h.hv
  have hO : OnlyG (B0 + 1) w8 (w8.setCell ⟨B0 + 1, 0, none⟩ v8) := OnlyG.set _ _ _
  have ne := h.ne
  have key : ∀ j, j < W.heap.size → j ≠ B0 + 1 → v.ownBlock ≠ some j → (w8.setCell ⟨B0 + 1, 0, none⟩ v8).heap[j]? = W.heap[j]? := fun j hj hn hr => by
    have hj1 : j < W1.heap.size := Nat.lt_of_lt_of_le hj h1.size
    exact (hO.block j (Nat.lt_of_lt_of_le hj1 hg.size) hn).trans ((hg.block j hj1 (fun e => hr e.symm)).trans (h1.block j hj))
  have hB8 : w8.heap[B0 + 1]? = some (.cells #[v] 26 (0, 0)) := (hg.block _ (Nat.lt_of_lt_of_le hb h1.size) (fun e => (ne _ e.symm).2.1 rfl)).trans ((h1.block _ hb).trans h.hv)
  have hsz : W.heap.size ≤ (w8.setCell ⟨B0 + 1, 0, none⟩ v8).heap.size := Nat.le_trans h1.size (Nat.le_trans hg.size hO.size)
  refine ⟨⟨hsz, fun j o hj ho hc => ?_⟩, ⟨hsz, fun j hj => ?_, fun j hj => ?_⟩, ⟨?_, ?_, ?_⟩⟩
  · refine (key j (heap_lt ho) (fun e => ?_) (fun e => ?_)).trans ho
    · rw [e, h.hv] at ho; cases ho; cases hc
    · obtain ⟨-, -, cur, h3⟩ := ne j e
      rw [h3] at ho; cases ho; cases hc
  · exact key j (by omega) (by omega) (fun e => by have := (ne j e).1; omega)
  · refine key j (frT_lt hj) (fun e => ?_) (fun e => ?_)
    · rw [e] at hj; exact not_frT h.hv (by decide) (by decide) hj
    · obtain ⟨-, -, cur, h3⟩ := ne j e
      exact not_frT h3 (by decide) (by decide) hj
  · have h3 := heap_setCell_same w8 (B0 + 1) 0 _ _ v8 hB8
    simpa using h3
  · rw [cellsE_snoc, List.length_append]
    refine owns_keepB hown (fun g hg8 => hO.block g (owns_ltB hown g hg8) (fun e => ?_))
    rcases hat with h3 | h3
    · rw [h3] at hg8; exact (ne g hg8).2.1 e
    · rw [h3] at hg8; injection hg8 with hg8; have := h1.size; omega
  · refine h.bel.trans ⟨?_, ?_, ?_, hsz, fun j hj => key j (by have := h.bel.size; omega) (by omega) (fun e => by have := (ne j e).1; omega)⟩
    · exact hO.os.trans (hg.os.trans h1.os)
    · exact hO.tape.trans (hg.tape.trans h1.tape)
    · exact hO.output.trans (hg.output.trans h1.output)
theorem NwB.stay {w : World} {B0 : Nat} {acc : List En} {v : Value} {W W1 : World} {B : Nat} (h : NwB w B0 acc v W) (hw : w.heap.size ≤ B0) (h1 : Below W.heap.size W W1) : KeepsFrom B W W1 ∧ KM B0 W W1 ∧ NwB w B0 acc v W1 := by
  have hb := heap_lt h.hv
  exact ⟨⟨h1.size, fun j o _ ho _ => (h1.block j (heap_lt ho)).trans ho⟩, KM.of h1 (by omega), h.keep (h1.block _ hb) (fun g cur e _ => h1.block g (heap_lt e)) (h.bel.trans (h1.mono h.bel.size))⟩
theorem putObj_below {W : World} {l B : Nat} (o : Obj) (h : B ≤ l) : Below B W (W.putObj l o) := ⟨rfl, rfl, rfl, by rw [World.putObj_size]; exact Nat.le_refl _, fun j hj => World.putObj_heap_other (by omega)⟩
set_option maxRecDepth 100000 in
set_option maxHeartbeats 8000000 in
theorem implNew_any (a : Option Addr) (cap : Nat) (L : List LV) (w : World) (hL : LieSS w a L) (hl : L.length ≤ 1048576) (hal : (allE L).length ≤ 1048576) :
    Calls Tryz.prog 50 #[.slice a L.length cap] w fun e w' => ∃ a' c', e = .returned (.slice a' (newE (allE L)).length c') ∧ ResE w' w.heap.size a' (newE (allE L)) ∧ Below w.heap.size w w' := by
  have HL := hdN hL
  have HAL : Hid (∀ i, i < L.length → (L.getD i lv0).xs.length ≤ 1048576) := fun i hi => by
    have h1 := allE_take L i hi
    have h2 := allE_len L (i + 1)
    rw [h1, List.length_append] at h2
    omega
  obtain ⟨i0, hi, hz0, hz1, hz2⟩ := info_parts source_info
  have H0 := hdN (SrcI.start (w := w) (L := L))
  clear hL
  generalize hn : L.length = n at *
  have HN := hdN hn
  clear hn
  refine (callsIn_wide (n := 6)).1 ?_
  refine callsIn_of_wp_marks Tryz.func50 rfl trivial ?_ rfl
  simp only [Tryz.ntmps50, List.size_toArray, List.length_cons, List.length_nil, Nat.reduceAdd, Nat.reduceSub, Array.replicate_succ, Array.replicate_zero, List.push_toArray, List.append_toArray, List.nil_append, List.cons_append]
  gi_wp2
  gi_loopw [3, 11] (fun v3 v11 W => ∃ (k : Nat) (cs : List SD), v11 = .int .i64 (k : Int) ∧ k ≤ n ∧ Hid (SrcI w L k v3 cs W)) (fun _ v11 _ => n - (intOf v11).toNat)
  case atStart => exact ⟨0, [], rfl, Nat.zero_le _, H0⟩
  case round =>
    clear H0
    obtain ⟨k, cs, rfl, hk, HI⟩ := hrel
    by_cases hkn : k < n
    · have hkn' : (k : Int) < (n : Int) := by omega
      obtain ⟨b, off, rfl, hbl, z0, hE⟩ := (HL.out.below HI.out.bel).at (i := k) (by rw [HN.out]; exact hkn)
      have hE0 : LieE w (L.getD k lv0).a (L.getD k lv0).xs := by
        obtain ⟨-, -, -, -, -, h⟩ := HL.out.at (i := k) (by rw [HN.out]; exact hkn)
        exact h
      have hxl := HAL.out k hkn
      have HE := hdN hE
      have HE0 := hdN hE0
      have HSn := hdN (fun (v' : Value) (w2 w3 : World) (c : SD) h2 hc hx hpa hsep hg hat hown => SrcI.snoc (v' := v') (w2 := w2) (w3 := w3) (c := c) HI.out h2 hc hx hpa hsep hg hat hown)
      have HSo := hdN (sortedEntries_any (L.getD k lv0).a (L.getD k lv0).cap (L.getD k lv0).xs wr hE hxl)
      have HSl := hdN (srt_length (L.getD k lv0).xs)
      have HBW := hdN HI.out.bel.size
      have HOB : Hid (∀ g, Value.ownBlock u3 = some g → w.heap.size ≤ g ∧ g < wr.heap.size) := fun g e => ⟨owns_baseN HI.out.row g e, owns_ltB HI.out.row g e⟩
      have HRow := hdN HI.out.row
      have HCl : Hid (cs.length = k) := HI.out.len
      generalize hxs : L.getD k lv0 = lv at *
      obtain ⟨la, lc, xs⟩ := lv
      dsimp only at *
      clear hxs hE hE0 HI
      generalize hm : xs.length = m at *
      have HM := hdN hm
      clear hm
      gi_wp2_with (refine ⟨trivial, ?_⟩; gi_at_call 84; refine (callsIn_wide.2 HSo.out).mono ?_; rintro e w1 ⟨a1, c1, rfl, hl1, hb1, ho1⟩; have HL1 := hdN hl1; have HB1 := hdN hb1; clear hl1 hb1)
      have HSO := hdN (sourceOf_any a1 c1 (srt befE xs) w1 HL1.out (by rw [HSl.out]; exact hxl))
      rw [HSl.out] at HSO
      have HSep : Hid (srt befE xs ≠ [] → ∀ b off, a1 = some ⟨b, off, none⟩ → Value.ownBlock u3 ≠ some b) := fun hn b' off' e1 e2 => by
        obtain ⟨g1, g2⟩ := HOB.out b' e2
        have hx0 : xs ≠ [] := fun h => hn (by rw [h]; rfl)
        rcases ho1.out with h1 | ⟨g, h1, h2⟩
        · rw [h1] at e1
          obtain ⟨b2, off2, e3, h3⟩ := HE0.out.blk hx0
          rw [e1] at e3
          cases e3
          omega
        · rw [h1] at e1
          cases e1
          omega
      clear ho1 HSo
      gi_wp2_with (first
        | (refine ⟨trivial, ?_⟩; gi_at_call 83; refine (callsIn_wide.2 HSO.out).mono ?_; rintro e w2 ⟨rfl, hz2', hs2, hb2⟩; have HS2 := hdN hs2; have HB2 := hdN (HB1.out.trans (hb2.mono HB1.out.size)); have HZ2 := hdN hb2.size; clear hz2' hs2 hb2)
        | (gi_at_builtin; refine wpListIn_append_own_at _ rfl _ _ 130 rfl w.heap.size 132 i0 _ 1 8 Tryz.underlying130 hi hz0 hz1 hz2 rfl (by decide) _ _ _ rfl ((owns_keepB HRow.out (fun g hg => HB2.out.block g (HOB.out g hg).2)).alloc _) ⟨w2.heap.size, 0, none⟩ 1 1 [SD.fn ⟨w1.heap.size + 1, w1.heap.size, a1, c1, srt befE xs⟩] rfl rfl (cell_first1N w2 _ _) (fun x hx => by simp at hx; subst hx; rfl) (by unfold maxLen; omega) (by omega) (by have h1 := HBW.out; have h2 := HB2.out.size; simp; omega) ?_; intro v8 w8 hown8 hgrow8 _ hat8; have HO8 := hdN hown8; have HG8 := hdN hgrow8; have HA8 := hdN hat8; clear hown8 hgrow8 hat8))
      have hba : Below w2.heap.size w2 (w2.alloc (.cells #[SD.fn ⟨w1.heap.size + 1, w1.heap.size, a1, c1, srt befE xs⟩] 132)) := (Below.refl _ _).alloc (Nat.le_refl _) _
      have HF := hdN (HSn.out v8 (w2.alloc (.cells #[SD.fn ⟨w1.heap.size + 1, w1.heap.size, a1, c1, srt befE xs⟩] 132)) w8 ⟨w1.heap.size + 1, w1.heap.size, a1, c1, srt befE xs⟩ (HB2.out.trans (hba.mono HB2.out.size)) (HS2.out.below hba) rfl (by show _ ≤ w1.heap.size + 1; have := HB1.out.size; omega) HSep.out HG8.out HA8.out HO8.out)
      clear hba HO8 HG8 HA8 HSn HS2 HB2 HB1 HSO HRow HOB HE HE0 HL1 z0 hbl
      gi_wp2
      exact ⟨⟨k + 1, _, by first | rfl | go_num, by omega, HF⟩, by simp only [intOf]; omega⟩
    · have hkn' : ¬ (k : Int) < (n : Int) := by omega
      have hke : k = n := by omega
      subst hke
      obtain ⟨a3, c3, rfl, hS⟩ := lieS_of_owns HI.out.row HI.out.len
      have HS := hdN hS
      have hwb := HI.out.bel.size
      clear hS hkn hk
      gi_wp2_with (refine ⟨trivial, ?_⟩; gi_at_call 85; refine (merge_in _ _ trivial rfl _ _ _ _).mono ?_; rintro e w' ⟨rfl, rfl⟩)
      have hnew : NwB w wr.heap.size [] (.slice (some ⟨wr.heap.size, 0, none⟩) 0 0) ((((wr.alloc (.cells #[] 50)).alloc (.cells #[.slice (some ⟨wr.heap.size, 0, none⟩) 0 0] 26)).alloc (.cells #[.func (.func 86) #[] #[]] 137)).alloc (.cells #[.slice a3 k c3] 130)) := by
        refine ⟨?_, ⟨rfl, .inr ⟨wr.heap.size, 0, #[], rfl, Nat.le_refl _, ?_, Nat.le_refl _, Nat.zero_le _, rfl, rfl⟩⟩, ?_⟩
        · rw [Below.heap_alloc _ _ _ (by simp <;> omega), Below.heap_alloc _ _ _ (by simp)]
          exact alloc_atM _ _ _ (by simp)
        · rw [Below.heap_alloc _ _ _ (by simp <;> omega), Below.heap_alloc _ _ _ (by simp <;> omega), Below.heap_alloc _ _ _ (by simp)]
          exact alloc_atM _ _ _ rfl
        · exact HI.out.bel.trans (((((((Below.refl _ _).alloc (Nat.le_refl _) _).alloc (by simp) _).alloc (by simp <;> omega) _).alloc (by simp <;> omega) _)).mono hwb)
      have hcbo : ((((wr.alloc (.cells #[] 50)).alloc (.cells #[.slice (some ⟨wr.heap.size, 0, none⟩) 0 0] 26)).alloc (.cells #[.func (.func 86) #[] #[]] 137)).alloc (.cells #[.slice a3 k c3] 130)).cell? ⟨wr.heap.size + 1 + 1, 0, none⟩ = some (.func (.func 86) #[] #[]) := by
        have h : ((((wr.alloc (.cells #[] 50)).alloc (.cells #[.slice (some ⟨wr.heap.size, 0, none⟩) 0 0] 26)).alloc (.cells #[.func (.func 86) #[] #[]] 137)).alloc (.cells #[.slice a3 k c3] 130)).heap[wr.heap.size + 1 + 1]? = some (.cells #[.func (.func 86) #[] #[]] 137 (0, 0)) := by
          rw [Below.heap_alloc _ _ _ (by simp)]
          exact alloc_atM _ _ _ (by simp)
        exact (oneN h).1
      have hcbs : ((((wr.alloc (.cells #[] 50)).alloc (.cells #[.slice (some ⟨wr.heap.size, 0, none⟩) 0 0] 26)).alloc (.cells #[.func (.func 86) #[] #[]] 137)).alloc (.cells #[.slice a3 k c3] 130)).cell? ⟨wr.heap.size + 1 + 1 + 1, 0, none⟩ = some (.slice a3 k c3) := by
        have h : ((((wr.alloc (.cells #[] 50)).alloc (.cells #[.slice (some ⟨wr.heap.size, 0, none⟩) 0 0] 26)).alloc (.cells #[.func (.func 86) #[] #[]] 137)).alloc (.cells #[.slice a3 k c3] 130)).heap[wr.heap.size + 1 + 1 + 1]? = some (.cells #[.slice a3 k c3] 130 (0, 0)) := alloc_atM _ _ _ (by simp)
        exact (oneN h).1
      have hbW : Below wr.heap.size wr ((((wr.alloc (.cells #[] 50)).alloc (.cells #[.slice (some ⟨wr.heap.size, 0, none⟩) 0 0] 26)).alloc (.cells #[.func (.func 86) #[] #[]] 137)).alloc (.cells #[.slice a3 k c3] 130)) := (((((Below.refl _ _).alloc (Nat.le_refl _) _).alloc (by simp) _).alloc (by simp <;> omega) _).alloc (by simp <;> omega) _)
      have hszW : ((((wr.alloc (.cells #[] 50)).alloc (.cells #[.slice (some ⟨wr.heap.size, 0, none⟩) 0 0] 26)).alloc (.cells #[.func (.func 86) #[] #[]] 137)).alloc (.cells #[.slice a3 k c3] 130)).heap.size ≥ wr.heap.size + 4 := by simp
      generalize ((((wr.alloc (.cells #[] 50)).alloc (.cells #[.slice (some ⟨wr.heap.size, 0, none⟩) 0 0] 26)).alloc (.cells #[.func (.func 86) #[] #[]] 137)).alloc (.cells #[.slice a3 k c3] 130)) = Wl at *
      have HA := hdN (HI.out.src.below hbW)
      have hsr := HI.out.src
      have HSl := hdN (HS.out.only hsr (OnlyS.of hbW))
      have hlow : ∀ p, p < cs.length → SrcB wr.heap.size (cs.getD p sd0) := fun p hp => (hsr p hp).low
      have hlo := HI.out.lo
      have hdis := HI.out.dis
      have hst : ∀ p, Srtd befE (cs.getD p sd0).xs := fun p => by
        by_cases hp : p < cs.length
        · rw [HI.out.xs p hp]; exact (srt_ok befE_swo _).1
        · have : cs.getD p sd0 = sd0 := by rw [List.getD_eq_getElem?_getD, List.getElem?_eq_none (by omega)]; rfl
          rw [this]; exact List.Pairwise.nil
      have hcl := HI.out.len
      obtain ⟨hsm, hsl⟩ := allS_sm L cs (by rw [hcl]; exact HN.out.symm) HI.out.xs
      have HSame : Hid (nwF (srt befE (allS cs)) = newE (allE L)) := by show _ = _; rw [← srt_congr hsm]; exact nwF_new _
      have hal2 : (allS cs).length ≤ 1048576 := by rw [← hsl]; exact hal
      clear hsm hsl HI HS
      generalize hB0 : wr.heap.size = B0 at *
      clear hB0
      refine loop_mine (gf := 131) (lb := #[.pointer (some ⟨B0 + 1 + 1, 0, none⟩), .pointer (some ⟨B0 + 1 + 1 + 1, 0, none⟩)]) rfl (enters_of Tryz.func131 (by kernel_rfl) rfl) (fun x : En => #[x.agg]) (fun _ => rfl) (KM B0) (ItW B0 cs) (fun xs => xs = srt befE (allS cs)) (allS cs).length KM.trans (fun W r r' h => frT_putObj _ h (by omega)) ?io ?seq (NwI w B0) (nwI_own w B0 _ (by omega)) (fun pre W W' h hi => nwI_it hwb hlo (fun p hp => (hlow p hp).1) h hi) ⟨_, hnew⟩
        (fun x W => { tmps := #[.slice a k cap, undef, .slice none 0 0, .slice a3 k c3, undef, u5, .pointer (some ⟨B0 + 1, 0, none⟩), .pointer (some ⟨W.heap.size, 0, none⟩), undef, .slice a k cap, .int .i64 (k : Int), .int .i64 (k : Int), .bool false, u13, u14, u15, u16, u17, u18, u19, u20, u21, .slice (some ⟨B0, 0, none⟩) 0 0, .slice a3 k c3, .func (.func 131) #[] #[.pointer (some ⟨B0 + 1 + 1, 0, none⟩), .pointer (some ⟨B0 + 1 + 1 + 1, 0, none⟩)], x.agg, undef, undef, undef, undef, undef, undef, undef, undef, undef, undef, undef, undef, undef, undef, undef, undef, undef, undef, undef, undef], defers := [] }) (fun x W => W.alloc (.cells #[.string x.ky, .int .i64 x.sq, .int .i64 x.kd, .string x.vl] 50)) (fun x W W2 => W2.heap[W.heap.size]? = some (.cells #[.string x.ky, .int .i64 x.sq, .int .i64 x.kd, .string x.vl] 50 (0, 0)))
        ?assign (fun x W => (Below.refl _ _).alloc (Nat.le_refl _) _) (fun x W hW => KM.of ((Below.refl _ _).alloc (Nat.le_refl _) _) (by omega)) ?aft ?body ?done
      case io =>
        intro W W' j o hi hj ho hc
        refine (hi.block j (heap_lt ho) (fun p hp => by have := (hlow p hp).1; omega) (.inr ?_)).trans ho
        rw [ho]
        rintro ⟨arr, t, fr, e, -⟩
        cases e
        cases hc
      case seq =>
        intro J W1 hz1 hb1 hJ hY h0
        have hlt1 : B0 + 1 + 1 < Wl.heap.size := by omega
        have hlt2 : B0 + 1 + 1 + 1 < Wl.heap.size := by omega
        exact merge1_in _ (by omega) _ (B0 + 1 + 1) (B0 + 1 + 1 + 1) B0 a3 c3 cs J W1 hJ (KM B0) (fun _ _ h => h) hY ((hb1.cell (p := ⟨B0 + 1 + 1, 0, none⟩) hlt1).trans hcbo) (by rw [hcl]; exact (hb1.cell (p := ⟨B0 + 1 + 1 + 1, 0, none⟩) hlt2).trans hcbs) (HSl.out.only HA.out (OnlyS.of hb1)) (HA.out.below hb1) hdis (by rw [hcl]; exact hl) hst hlow (by omega) h0
      case assign =>
        intro x W K hK
        gi_wp2
        exact hK
      case aft =>
        intro x W r r' hr
        exact (World.putObj_heap_other (by have := heap_lt hr; omega)).trans (World.heap_alloc_new _ _)
      case body =>
        rintro pre x W W2 ⟨v, hN⟩ hA hlt
        have hpl : (nwF pre).length ≤ 1048576 := by have := nwF_len pre; omega
        have HSn := hdN (nwF_snoc pre x)
        have HAp := hdN (fun (v8 : Value) (W1 w8 : World) h1 hg hat hown => NwB.app (v8 := v8) (W1 := W1) (w8 := w8) (x := x) (B := Wl.heap.size) hN hwb h1 hg hat hown)
        have HSt := hdN (fun (W1 : World) h1 => NwB.stay (W1 := W1) (B := Wl.heap.size) hN hwb h1)
        have HNe := hdN hN.ne
        obtain ⟨j0, ji, jz0, jz1, jz2⟩ := info_parts iEntry_info
        obtain ⟨a4, c4, rfl, hLie, hlc, hcm⟩ := owns_capE hN.row
        have HRW0 := hdN hN.row
        obtain ⟨v0, v1⟩ := oneN hN.hv
        obtain ⟨x0, x1, x2, x3⟩ := fourB hA
        have hnb0 := heap_lt hN.hv
        have hxb0 := heap_lt hA
        have HV0 := hdN hN.hv
        have HXA := hdN hA
        clear hN hA
        generalize hacc : nwF pre = acc at *
        clear hacc
        generalize hxb : W.heap.size = xb at *
        clear hxb
        rcases List.eq_nil_or_concat acc with hnil | ⟨acc', y, hcc⟩
        · subst hnil
          have HRes : Hid (nwF (pre ++ [x]) = [] ++ [x]) := by show _ = _; rw [HSn.out]; simp [nwA]
          gi_wp2
          refine wpIn_mono (Q := fun ex a' w' => ex = .normal ∧ w' = W2.drew ∧ a' = { tmps := #[.slice a k cap, undef, .slice none 0 0, .slice a3 k c3, undef, u5, .pointer (some ⟨B0 + 1, 0, none⟩), .pointer (some ⟨xb, 0, none⟩), .int .i64 (-1), .slice a k cap, .int .i64 (k : Int), .int .i64 (k : Int), .bool false, u13, u14, u15, u16, u17, u18, u19, u20, u21, .slice (some ⟨B0, 0, none⟩) 0 0, .slice a3 k c3, .func (.func 131) #[] #[.pointer (some ⟨B0 + 1 + 1, 0, none⟩), .pointer (some ⟨B0 + 1 + 1 + 1, 0, none⟩)], x.agg, .slice a4 0 c4, .int .i64 0, .int .i64 (-1), .int .i64 (-1), .bool true, .bool true, undef, undef, undef, undef, undef, undef, undef, undef, .bool true, undef, undef, undef, undef, undef], defers := [] }) ?reg ?_
          case reg => as_aux_lemma =>
            gi_region
            all_goals exact ⟨rfl, rfl, rfl⟩
          rintro ex a' w' ⟨rfl, rfl, rfl⟩
          have hb3 : Below W2.heap.size W2 W2.drew := (Below.refl _ _).drew
          have HB3 := hdN hb3
          have HV3 := hdN ((hb3.block _ hnb0).trans HV0.out)
          have HX3 := hdN ((hb3.block _ hxb0).trans HXA.out)
          have HRW := hdN (owns_keepB HRW0.out (fun g hg => hb3.block g (owns_ltB HRW0.out g hg)))
          clear hb3 v0 v1 x0 x1 x2 x3 HV0 HXA HRW0
          generalize W2.drew = W3 at *
          obtain ⟨v0, v1⟩ := oneN HV3.out
          obtain ⟨x0, x1, x2, x3⟩ := fourB HX3.out
          have hnb3 := heap_lt HV3.out
          have hxb3 := heap_lt HX3.out
          gi_wp2_with (gi_at_builtin; refine wpListIn_append_own_at _ rfl _ _ 26 rfl B0 50 j0 _ 4 48 Tryz.underlying26 ji jz0 jz1 jz2 rfl (by decide) _ _ _ rfl (HRW.out.alloc _) ⟨W3.heap.size, 0, none⟩ 1 1 [.string x.ky, .int .i64 x.sq, .int .i64 x.kd, .string x.vl] rfl rfl (cell_first4 W3 _ _ _ _ _) (fun x hx => by simp at hx; rcases hx with rfl | rfl | rfl | rfl <;> rfl) (by unfold maxLen; omega) (by omega) (by simp; omega) ?_; intro v8 w8 hown8 hgrow8 _ hat8; have HA8 := hdN (HAp.out v8 (W3.alloc (.cells #[.string x.ky, .int .i64 x.sq, .int .i64 x.kd, .string x.vl] 50)) w8 (HB3.out.alloc HB3.out.size _) hgrow8 hat8 hown8); obtain ⟨g8, cap8, rfl⟩ := owns_succD hown8; have hd8 := (hgrow8.block (B0 + 1) (by simp; omega) (fun e => (HNe.out _ e.symm).2.1 rfl)).trans ((Below.heap_alloc _ _ _ hnb3).trans HV3.out); obtain ⟨t8, u8⟩ := oneN hd8; clear hown8 hgrow8 hat8 hd8)
          obtain ⟨d1, d2, d3⟩ := HA8.out
          first | exact ⟨rfl, d1, d2, _, by rw [HRes.out]; exact d3⟩ | exact ⟨d1, d2, _, by rw [HRes.out]; exact d3⟩
        · have hcc' : acc = acc' ++ [y] := by simpa using hcc
          obtain ⟨m, hm⟩ : ∃ m, m = acc'.length := ⟨_, rfl⟩
          have hal : acc.length = m + 1 := by rw [hcc', hm]; simp
          obtain ⟨g4, o4, ha4, hg4, k0, -, -, -⟩ := hLie.at (i := m) (by omega)
          subst ha4
          have hgy : acc.getD m en0 = y := by rw [hcc', hm]; simp [List.getD]
          rw [hgy] at k0
          have HKy : Hid (acc.getLast? = some y) := by show _ = _; rw [hcc']; simp
          have hLL := hdN hLie
          clear hcc hcc' hgy hLie
          rw [hal] at v0 HAp HSt HNe HRW0 HV0
          have hm1 : (m : Int) < ((m + 1 : Nat) : Int) := by omega
          have hm2 : ((m + 1 : Nat) : Int) - 1 = (m : Int) := by omega
          have hm3 : ¬ ((m : Int) < 0) := by omega
          have hm3d : decide ((m : Int) < 0) = false := by simp
          have hmb : m ≤ 1048576 := by omega
          clear hm hal
          by_cases hky : y.ky = x.ky
          · have hkt : (!y.ky.toList == x.ky.toList) = false := by rw [hky]; simp
            have HRes : Hid (nwF (pre ++ [x]) = acc) := by show _ = _; rw [HSn.out]; unfold nwA; rw [HKy.out]; simp [hky]
            rw [hky] at k0
            gi_wp2
            refine wpIn_mono (Q := fun ex a' w' => ex = .normal ∧ w' = W2.drew ∧ a' = { tmps := #[.slice a k cap, undef, .slice none 0 0, .slice a3 k c3, undef, u5, .pointer (some ⟨B0 + 1, 0, none⟩), .pointer (some ⟨xb, 0, none⟩), .int .i64 (m : Int), .slice a k cap, .int .i64 (k : Int), .int .i64 (k : Int), .bool false, u13, u14, u15, u16, u17, u18, u19, u20, u21, .slice (some ⟨B0, 0, none⟩) 0 0, .slice a3 k c3, .func (.func 131) #[] #[.pointer (some ⟨B0 + 1 + 1, 0, none⟩), .pointer (some ⟨B0 + 1 + 1 + 1, 0, none⟩)], x.agg, .slice (some ⟨g4, o4, none⟩) (m + 1) c4, .int .i64 ((m : Int) + 1), .int .i64 (m : Int), .int .i64 (m : Int), .bool false, .bool false, .slice (some ⟨g4, o4, none⟩) (m + 1) c4, .int .i64 (m : Int), .pointer (some ⟨g4, o4 + m * 4, none⟩), .pointer (some ⟨g4, o4 + m * 4, none⟩), .string x.ky, .pointer (some ⟨xb, 0, none⟩), .string x.ky, .bool false, .bool false, undef, undef, undef, undef, undef], defers := [] }) ?reg ?_
            case reg => as_aux_lemma =>
              gi_region
              all_goals exact ⟨rfl, rfl, rfl⟩
            rintro ex a' w' ⟨rfl, rfl, rfl⟩
            have hb3 : Below W2.heap.size W2 W2.drew := (Below.refl _ _).drew
            have HD := hdN (HSt.out _ hb3)
            clear hb3
            gi_wp2
            obtain ⟨d1, d2, d3⟩ := HD.out
            first | exact ⟨rfl, d1, d2, _, by rw [HRes.out]; exact d3⟩ | exact ⟨d1, d2, _, by rw [HRes.out]; exact d3⟩
          · have hkt : (!y.ky.toList == x.ky.toList) = true := by
              simp
              intro h
              exact hky (toList_eq' (by rw [h]; simp))
            have HRes : Hid (nwF (pre ++ [x]) = acc ++ [x]) := by show _ = _; rw [HSn.out]; unfold nwA; rw [HKy.out]; simp [hky]
            gi_wp2
            refine wpIn_mono (Q := fun ex a' w' => ex = .normal ∧ w' = W2.drew ∧ a' = { tmps := #[.slice a k cap, undef, .slice none 0 0, .slice a3 k c3, undef, u5, .pointer (some ⟨B0 + 1, 0, none⟩), .pointer (some ⟨xb, 0, none⟩), .int .i64 (m : Int), .slice a k cap, .int .i64 (k : Int), .int .i64 (k : Int), .bool false, u13, u14, u15, u16, u17, u18, u19, u20, u21, .slice (some ⟨B0, 0, none⟩) 0 0, .slice a3 k c3, .func (.func 131) #[] #[.pointer (some ⟨B0 + 1 + 1, 0, none⟩), .pointer (some ⟨B0 + 1 + 1 + 1, 0, none⟩)], x.agg, .slice (some ⟨g4, o4, none⟩) (m + 1) c4, .int .i64 ((m : Int) + 1), .int .i64 (m : Int), .int .i64 (m : Int), .bool false, .bool false, .slice (some ⟨g4, o4, none⟩) (m + 1) c4, .int .i64 (m : Int), .pointer (some ⟨g4, o4 + m * 4, none⟩), .pointer (some ⟨g4, o4 + m * 4, none⟩), .string y.ky, .pointer (some ⟨xb, 0, none⟩), .string x.ky, .bool true, .bool true, undef, undef, undef, undef, undef], defers := [] }) ?reg ?_
            case reg => as_aux_lemma =>
              gi_region
              all_goals exact ⟨rfl, rfl, rfl⟩
            rintro ex a' w' ⟨rfl, rfl, rfl⟩
            have hb3 : Below W2.heap.size W2 W2.drew := (Below.refl _ _).drew
            have HB3 := hdN hb3
            have HV3 := hdN ((hb3.block _ hnb0).trans HV0.out)
            have HX3 := hdN ((hb3.block _ hxb0).trans HXA.out)
            have HRW := hdN (owns_keepB HRW0.out (fun g hg => hb3.block g (owns_ltB HRW0.out g hg)))
            clear hb3 v0 v1 x0 x1 x2 x3 HV0 HXA HRW0
            generalize W2.drew = W3 at *
            obtain ⟨v0, v1⟩ := oneN HV3.out
            obtain ⟨x0, x1, x2, x3⟩ := fourB HX3.out
            have hnb3 := heap_lt HV3.out
            have hxb3 := heap_lt HX3.out
            gi_wp2_with (gi_at_builtin; refine wpListIn_append_own_at _ rfl _ _ 26 rfl B0 50 j0 _ 4 48 Tryz.underlying26 ji jz0 jz1 jz2 rfl (by decide) _ _ _ rfl (HRW.out.alloc _) ⟨W3.heap.size, 0, none⟩ 1 1 [.string x.ky, .int .i64 x.sq, .int .i64 x.kd, .string x.vl] rfl rfl (cell_first4 W3 _ _ _ _ _) (fun x hx => by simp at hx; rcases hx with rfl | rfl | rfl | rfl <;> rfl) (by unfold maxLen; omega) (by omega) (by simp; omega) ?_; intro v8 w8 hown8 hgrow8 _ hat8; have HA8 := hdN (HAp.out v8 (W3.alloc (.cells #[.string x.ky, .int .i64 x.sq, .int .i64 x.kd, .string x.vl] 50)) w8 (HB3.out.alloc HB3.out.size _) hgrow8 hat8 hown8); obtain ⟨g8, cap8, rfl⟩ := owns_succD hown8; have hd8 := (hgrow8.block (B0 + 1) (by simp; omega) (fun e => (HNe.out _ e.symm).2.1 rfl)).trans ((Below.heap_alloc _ _ _ hnb3).trans HV3.out); obtain ⟨t8, u8⟩ := oneN hd8; clear hown8 hgrow8 hat8 hd8)
            obtain ⟨d1, d2, d3⟩ := HA8.out
            first | exact ⟨rfl, d1, d2, _, by rw [HRes.out]; exact d3⟩ | exact ⟨d1, d2, _, by rw [HRes.out]; exact d3⟩
      case done =>
        rintro xs W rfl ⟨v, hN⟩ hK
        rw [HSame.out] at hN
        obtain ⟨v0, v1⟩ := oneN hN.hv
        have hrow' : (W.putObj Wl.heap.size (.deferred none)).ownsRow B0 50 4 v (newE (allE L)).length (cellsE (newE (allE L))) := owns_keepB hN.row (fun g hg => World.putObj_heap_other (fun e => by
          obtain ⟨-, -, cur, h3⟩ := hN.ne g hg
          rw [e, hK] at h3
          cases h3))
        obtain ⟨-, a', c', rfl, hres⟩ := resE_of_owns hrow'
        have hBp := hN.bel.trans (putObj_below (W := W) (l := Wl.heap.size) (B := w.heap.size) (.deferred none) (by omega))
        gi_wp2
        refine ⟨by simp, .inl ⟨_, _, rfl, run_takeDeferred hK, ?_⟩⟩
        exact ⟨_, results_tmp rfl _ _ _, a', c', rfl, hres.down hwb, hBp⟩
end Go.Proofs.YtgmfjninimebmaaGreatDoor
