import Derived.Test.YtohpfjpgihcmiaaGreatDoorPsG

import Derived.Deep.RegionLaw
namespace Go.Proofs.YtohpfjpgihcmiaaGreatDoor
open Go.RowKit Go.Maps
set_option linter.unusedVariables false
set_option linter.unusedSimpArgs false

theorem owns_ltD {w : World} {B n size : Nat} {e : TypeId} {v : Value} {xs : List Value} (h : w.ownsRow B e size v n xs) : ∀ g, v.ownBlock = some g → g < w.heap.size := by
  obtain ⟨-, h2⟩ := h
  rcases h2 with ⟨rfl, -⟩ | ⟨g, cap, cur, rfl, hg, hbk, -⟩
  · intro g hg
    cases hg
  · intro g' hg'
    cases hg'
    exact heap_lt hbk
theorem owns_only {w w' : World} {B p n size : Nat} {e : TypeId} {v : Value} {xs : List Value} (h : w.ownsRow B e size v n xs) (ho : Only p w w') (hp : p < B) : w'.ownsRow B e size v n xs :=
  owns_blocks h (fun g hg => ho.block g (owns_ltD h g hg) (by have := owns_base h g hg; omega))
theorem owns_succD {W : World} {base : Nat} {e : TypeId} {size : Nat} {v : Value} {k : Nat} {xs : List Value} (h : W.ownsRow base e size v (k + 1) xs) : ∃ g c, v = .slice (some ⟨g, 0, none⟩) (k + 1) c := by
  rcases h.2 with ⟨-, h0⟩ | ⟨g, cap, cur, rfl, -⟩
  · cases h0
  · exact ⟨g, cap, rfl⟩
theorem cell_one_newD (w : World) (x : Value) (t : TypeId) : ∀ j u, [x][j]? = some u → (w.alloc (.cells #[x] t)).cell? ((⟨w.heap.size, 0, none⟩ : Addr).add j) = some u := by
  intro j v hj
  rw [Go.WideShapes.add_plain]
  have hb : (w.alloc (.cells #[x] t)).heap[w.heap.size]? = some (.cells #[x] t (0, 0)) := World.heap_alloc_new _ _
  simp only [World.cell?, hb]
  match j, hj with
  | 0, hj => simpa using hj
theorem step_append_own {P : Program} {ops : Array Oper} {o : Oper} {a : Act} {w : World} {K : Act → World → Prop} {Q : Exit → Act → World → Prop} {E : Prop}
    (hg : o.guard = none) (s x : Operand) (t : TypeId) (ho : o.op = Op.call { callee := Callee.builtin Builtin.append, args := #[s, x], argTypes := #[t, t] })
    (base : Nat) (e : TypeId) (i : TypeInfo) (z : Value) (size bytes : Nat) (ht : P.underlying t = some (.slice e)) (hi : P.info? e = some i) (hz : i.zero = some z)
    (hsize : i.size = size) (hby : i.bytes = bytes) (hzs : z.cells.size = size) (hsz : 0 < size)
    (v : Value) (n : Nat) (xs : List Value) (hs : a.eval s = v) (hown : w.ownsRow base e size v n xs)
    (ad : Addr) (m c : Nat) (news : List Value) (hx : a.eval x = .slice (some ad) m c) (hl : news.length = m * size) (hnews : ∀ j u, news[j]? = some u → w.cell? (ad.add j) = some u) (h1 : ∀ u ∈ news, u.oneCell' = true)
    (h63 : n + m ≤ maxLen) (hbytes : (n + m) * bytes ≤ 140737488355328) (hbase : base ≤ w.heap.size)
    (h : ∀ v' w', w'.ownsRow base e size v' (n + m) (xs ++ news) → w.grownBy w' v.ownBlock → (v' = .slice none 0 0 ↔ v = .slice none 0 0 ∧ m = 0) → K (a.put o.dst v') w') :
    if Region.wanted o (yielded ops a.tmps) = true then Oper.wp P o a w K Q else E := by
  have hw : Region.wanted o (yielded ops a.tmps) = true := by simp [Region.wanted, hg]
  rw [if_pos hw]
  exact wp_append_own w s x t ho base e i z size bytes ht hi hz hsize hby hzs hsz v n xs hs hown ad m c news hx hl hnews h1 h63 hbytes hbase h
/-- How many parts are not yet read. -/
def lenP (W : World) (p : Nat) : Nat := match W.cell? ⟨p, 0, none⟩ with
  | some (.slice _ n _) => n
  | _ => 0
theorem lenP_Pt {w : World} {p : Nat} {r : List ByteArray} {fl : Bool} (h : Pt w p r fl) : lenP w p = r.length := by
  obtain ⟨a, cap, h1, -⟩ := h
  obtain ⟨c0, -⟩ := two_cellsP h1
  unfold lenP
  rw [c0]
theorem size_alloc (w : World) (o : Obj) : (w.alloc o).heap.size = w.heap.size + 1 := by simp
theorem heap_alloc_oldH (w : World) (o : Obj) (k : Nat) (hk : k < w.heap.size) : (w.alloc o).heap[k]? = w.heap[k]? := ((Below.refl _ w).alloc (Nat.le_refl _) o).block k hk
theorem grow_op {w w8 : World} {b : Nat} {k : Int} {ky vl : ByteArray} {n : Int} {vb vk v : Value} {B m size : Nat} {e : TypeId} {xs : List Value} {o : Obj} (h : OpC w b k ky vl n vb vk) (hr : w.ownsRow B e size v m xs) (hg : (w.alloc o).grownBy w8 v.ownBlock) (hb : b < B) : OpC w8 b k ky vl n vb vk := by
  have hl := heap_ltP h
  refine (hg.block b (by rw [size_alloc]; omega) (fun e => ?_)).trans ((heap_alloc_oldH w o b hl).trans h)
  have := owns_base hr b e.symm
  omega
theorem grow_pt {w w8 : World} {p : Nat} {r : List ByteArray} {fl : Bool} {v : Value} {B m size : Nat} {e : TypeId} {xs : List Value} {o : Obj} (h : Pt w p r fl) (hr : w.ownsRow B e size v m xs) (hg : (w.alloc o).grownBy w8 v.ownBlock) (hb : p < B) : Pt w8 p r fl := by
  obtain ⟨a, cap, h1, h2, h3, h4⟩ := h
  have hbl : ∀ k, k < w.heap.size → k < B → w8.heap[k]? = w.heap[k]? := fun k hk hkB => by
    refine (hg.block k (by rw [size_alloc]; omega) (fun e => ?_)).trans (heap_alloc_oldH w o k hk)
    have := owns_base hr k e.symm
    omega
  refine ⟨a, cap, (hbl p (heap_ltP h1) hb).trans h1, h2, ?_, h4⟩
  rcases h3 with rfl | ⟨g, off, rfl, hlt, hc⟩
  · exact .inl rfl
  · have hgp := h4 g off rfl
    refine .inr ⟨g, off, rfl, ?_, fun i hi => (World.cell?_of_block (w := w) (hbl g hlt (by omega))).trans (hc i hi)⟩
    have := hg.size
    rw [size_alloc] at this
    omega
theorem grow_below {q : Nat} {w0 w w8 : World} {v : Value} {B m size : Nat} {e : TypeId} {xs : List Value} {o : Obj} (h : Below q w0 w) (hr : w.ownsRow B e size v m xs) (hg : (w.alloc o).grownBy w8 v.ownBlock) (hb : q ≤ B) (hB : B ≤ w.heap.size) : Below q w0 w8 :=
  (h.alloc (by omega) o).grown hg (by simp; omega) (fun g hgg => Nat.le_trans hb (owns_base hr g hgg))
def badN (x : ByteArray) : Bool := (numM x.data.toList).isNone

set_option maxRecDepth 100000 in
set_option maxHeartbeats 2000000 in
theorem readKeep_any (p b : Nat) (r : List ByteArray) (fl : Bool) (k : Int) (ky vl : ByteArray) (n : Int) (vb : Value) (w w0 : World) (h : Pt w p r fl) (hl : r.length ≤ 1048577) (hz : ∀ x ∈ r, x.size ≤ 1048576) (hv : VarsP w0) (hb : Below w0.heap.size w0 w) (hp : w0.heap.size ≤ p) (hO : OpC w b k ky vl n vb (.slice none 0 0)) (hpb : p < b) :
    Calls Tryz.prog 35 #[.pointer (some ⟨p, 0, none⟩), .pointer (some ⟨b, 0, none⟩)] w fun e w' => (∃ v, e = .returned v) ∧ ∃ u, Pt w' p [] (fl || r.any badN) ∧ OpC w' b k ky vl n vb u ∧ Below p w w' ∧ w'.ownsRow w.heap.size 3 1 u r.length (ic (r.map nuV)) := by
  obtain ⟨j0, ji, jz0, jz1, jz2⟩ := info_parts int_info
  have hbl := heap_ltP hO
  have hpl := Nat.le_of_lt h.lt
  have HN : Hid (∀ (W : World) (x : ByteArray) (rest : List ByteArray) (fl : Bool), Pt W p (x :: rest) fl → (x :: rest).length ≤ 1048577 → (∀ y ∈ x :: rest, y.size ≤ 1048576) → Below p w W → Calls Tryz.prog 28 #[.pointer (some ⟨p, 0, none⟩)] W fun e w' => e = .returned (.int .i64 (nuV x)) ∧ Pt w' p rest (fl || badN x) ∧ Only p W w') :=
    fun W x rest fl h hl hz hB => number_any p 0 (x :: rest) fl W w0 h hl hz hv (hb.trans (hB.mono hp)) hp
  go_enter Tryz.func35, Tryz.ntmps35
  go_wp2_with fail
  go_loopw [] (fun W => ∃ (pre rest : List ByteArray) (u : Value), r = pre ++ rest ∧ Hid (Pt W p rest (fl || pre.any badN)) ∧ Hid (OpC W b k ky vl n vb u) ∧ Hid (Below p w W) ∧ Hid (W.ownsRow w.heap.size 3 1 u pre.length (ic (pre.map nuV)))) (fun W => lenP W p)
  case atStart => exact ⟨[], r, .slice none 0 0, rfl, (by rw [List.any_nil, Bool.or_false]; exact h), hO, Below.refl _ _, ownsNil _ _ _ _⟩
  case round =>
    clear h hO
    obtain ⟨pre, rest, u, hr, HP, HO, HB, HR⟩ := hrel
    have hrl : rest.length ≤ 1048577 := by rw [hr, List.length_append] at hl; omega
    have HM := hdN (more_any p rest _ wr HP.out hrl)
    cases rest with
    | nil =>
      have hd : decide (0 < ([] : List ByteArray).length) = false := rfl
      rw [hd] at HM
      go_wp2_with fail
      refine HM.out.mono ?_
      rintro e w' ⟨rfl, rfl⟩
      go_wp2_with fail
      go_end0
      rw [List.append_nil] at hr
      subst hr
      exact ⟨⟨_, rfl⟩, u, HP.out, HO.out, HB.out, HR.out⟩
    | cons x rest =>
      have hd : decide (0 < (x :: rest).length) = true := rfl
      rw [hd] at HM
      go_wp2_with fail
      refine HM.out.mono ?_
      rintro e w' ⟨rfl, rfl⟩
      have hpd : Pt w'.drew p (x :: rest) (fl || pre.any badN) := HP.out
      have HC := hdN (HN.out w'.drew x rest _ hpd hrl (fun y hy => hz y (by rw [hr]; exact List.mem_append_right _ hy)) (HB.out.drew))
      obtain ⟨x0, x1, x2, x3, x4, x5⟩ := six_cells HO.out
      obtain ⟨z0, z1, z2, z3, z4, z5⟩ := six_free HO.out
      clear x0 x1 x2 x3 x4 z0 z1 z2 z3 z4
      have hpl' : p ≤ w'.drew.heap.size := Nat.le_of_lt hpd.lt
      clear hpd
      go_upto_region 1 with fail
      have hbB : b < w.heap.size := hbl
      have hpre : pre.length ≤ 1048577 := by rw [hr, List.length_append] at hl; omega
      have hsz := HB.out.size
      have HL := hdN (lenP_Pt HP.out)
      clear HP HM HN
      go_region_law (first
        | (refine step_append_own rfl (.tmp 10) (.tmp 13) 36 rfl w.heap.size 3 j0 _ 1 8 Tryz.underlying36 ji jz0 jz1 jz2 rfl (by decide) _ _ _ (by simp [Act.eval, Act.put]) (HR1.out.alloc (.cells #[.int .i64 (nuV x)] 3)) ⟨w1.heap.size, 0, none⟩ 1 1 [.int .i64 (nuV x)] (by simp [Act.eval, Act.put]) rfl (cell_one_newD w1 _ _) (fun x hx => by simp at hx; subst hx; rfl) (by unfold maxLen; omega) (by omega) (by simp; omega) ?_; intro v8 w8 hown8 hgrow8 hnil8; obtain ⟨g8, cap8, rfl⟩ := owns_succD hown8; have HO8 := hdN (grow_op HO1.out HR1.out hgrow8 hbB); have t8 := (six_cells HO8.out).2.2.2.2.2; have f8 := (six_free HO8.out).2.2.2.2.2; have HP8 := hdN (grow_pt HP1.out HR1.out hgrow8 (Nat.lt_trans hpb hbB)); have HB8 := hdN (grow_below HB1.out HR1.out hgrow8 (Nat.le_of_lt (Nat.lt_trans hpb hbB)) hs1); have HW8 := hdN hown8; clear hown8 hgrow8 hnil8)
        | (go_simp; go_at_call 28; refine HC.out.mono ?_; rintro e w1 ⟨rfl, hp1, ho1⟩; have HP1 := hdN hp1; have HO1 := hdN (HO.out.only (w := w'.drew) ho1 (by omega)); have HR1 := hdN (owns_only (w := w'.drew) HR.out ho1 (by omega)); have HB1 := hdN (HB.out.drew.trans (ho1.below (Nat.le_refl _) hpl')); have y5 := (six_cells HO1.out).2.2.2.2.2; have hs1 : w.heap.size ≤ w1.heap.size := HB1.out.size; have hb1 : b < w1.heap.size := Nat.lt_of_lt_of_le hbB hs1; clear hp1 ho1))
      all_goals
        go_wp2_with fail
        refine ⟨⟨pre ++ [x], rest, .slice (some ⟨g8, 0, none⟩) (pre.length + 1) cap8, by rw [hr]; simp, ?_, HO8.out.kep _, HB8.out.setCell (p := ⟨b, 5, none⟩) (by simp; omega) _, ?_⟩, ?_⟩
        · show Pt _ _ _ _
          rw [List.any_append, ← Bool.or_assoc]
          have e : ([x].any badN) = badN x := by simp
          rw [e]
          exact HP8.out.set hpb
        · show World.ownsRow _ _ _ _ _ _ _
          rw [List.map_append, List.length_append]
          have e : ic (pre.map nuV ++ [x].map nuV) = ic (pre.map nuV) ++ [.int .i64 (nuV x)] := by simp [ic]
          rw [e]
          exact owns_set HW8.out hbB
        · rw [HL.out, lenP_Pt (HP8.out.set hpb)]
          simp

def badI (x : ByteArray) : Bool := (itO x).isNone
theorem mapM_snocO {α β : Type} (f : α → Option β) (xs : List α) (x : α) (vs : List β) (h : (xs ++ [x]).mapM f = some vs) : ∃ us v, xs.mapM f = some us ∧ f x = some v ∧ vs = us ++ [v] := by
  rw [List.mapM_append] at h
  cases h1 : xs.mapM f with
  | none => rw [h1] at h; simp at h
  | some us =>
    cases h2 : f x with
    | none => rw [h1] at h; simp [h2] at h
    | some v => rw [h1] at h; simp [h2] at h; exact ⟨us, v, rfl, rfl, h.symm⟩
/-- How far a batch is read. -/
def BatI (w : World) (p b : Nat) (R : List ByteArray) (fl : Bool) (k : Int) (ky vl : ByteArray) (n : Int) (vk : Value) (pre rest : List ByteArray) (u : Value) (Es : List En) (W : World) : Prop :=
  R = pre ++ rest ∧ Pt W p rest (fl || pre.any badI) ∧ OpC W b k ky vl n u vk ∧ Below p w W ∧ W.ownsRow w.heap.size 51 4 u Es.length (cellsE Es) ∧ Es.length = pre.length ∧ (∀ vs, pre.mapM itO = some vs → Es = vs)
theorem batI_step {w w8 : World} {p b : Nat} {R : List ByteArray} {fl : Bool} {k : Int} {ky vl : ByteArray} {n : Int} {vk u u8 : Value} {pre rest : List ByteArray} {x : ByteArray} {Es : List En} {E : En}
    (hR : R = pre ++ x :: rest) (hO : OpC w8 b k ky vl n u vk) (hP : Pt w8 p rest ((fl || pre.any badI) || badI x)) (hB : Below p w w8) (hW : w8.ownsRow w.heap.size 51 4 u8 (Es.length + 1) (cellsE Es ++ [.string E.ky, .int .i64 E.sq, .int .i64 E.kd, .string E.vl]))
    (hL : Es.length = pre.length) (hEs : ∀ vs, pre.mapM itO = some vs → Es = vs) (hE : ∀ v, itO x = some v → E = v) (hpb : p < b) (hbB : b < w.heap.size) :
    BatI w p b R fl k ky vl n vk (pre ++ [x]) rest u8 (Es ++ [E]) (w8.setCell ⟨b, 4, none⟩ u8) := by
  refine ⟨by rw [hR]; simp, ?_, hO.bat _, hB.setCell (p := ⟨b, 4, none⟩) (by simp; omega) _, ?_, by simp [hL], ?_⟩
  · rw [List.any_append, ← Bool.or_assoc]
    have e : ([x].any badI) = badI x := by simp
    rw [e]
    exact hP.set hpb
  · rw [cellsE_snoc, List.length_append]
    exact owns_set hW hbB
  · intro vs hvs
    obtain ⟨us, v, h1, h2, rfl⟩ := mapM_snocO itO pre x vs hvs
    rw [hEs us h1, hE v h2]
set_option maxRecDepth 100000 in
set_option maxHeartbeats 2000000 in
theorem readBatch_any (p b : Nat) (r : List ByteArray) (fl : Bool) (k : Int) (ky vl : ByteArray) (n : Int) (vk : Value) (w w0 : World) (h : Pt w p r fl) (hl : r.length ≤ 1048577) (hz : ∀ x ∈ r, x.size ≤ 1048576) (hv : VarsP w0) (hb : Below w0.heap.size w0 w) (hp : w0.heap.size ≤ p) (hO : OpC w b k ky vl n (.slice none 0 0) vk) (hpb : p < b) :
    Calls Tryz.prog 33 #[.pointer (some ⟨p, 0, none⟩), .pointer (some ⟨b, 0, none⟩)] w fun e w' => (∃ v, e = .returned v) ∧ ∃ (u : Value) (Es : List En), Pt w' p [] (fl || (badI (hd0 r) || r.tail.any badI)) ∧ OpC w' b k ky vl n u vk ∧ Below p w w' ∧ w'.ownsRow w.heap.size 51 4 u Es.length (cellsE Es) ∧ (∀ vs, (hd0 r :: r.tail).mapM itO = some vs → Es = vs) := by
  obtain ⟨j0, ji, jz0, jz1, jz2⟩ := info_parts iEntry_info
  have hbl := heap_ltP hO
  have hpl := Nat.le_of_lt h.lt
  have HN : Hid (∀ (W : World) (r : List ByteArray) (fl : Bool), Pt W p r fl → r.length ≤ 1048577 → (∀ y ∈ r, y.size ≤ 1048576) → Below p w W → Calls Tryz.prog 50 #[.pointer (some ⟨p, 0, none⟩)] W fun e w' => ∃ E : En, e = .returned E.agg ∧ (∀ v, itO (hd0 r) = some v → E = v) ∧ Pt w' p r.tail (fl || badI (hd0 r)) ∧ Only p W w') :=
    fun W r fl h hl hz hB => item_any p r fl W w0 h hl hz hv (hb.trans (hB.mono hp)) hp
  have HLR : Hid ((hd0 r :: r.tail).length ≤ 1048577) := by
    show _ ≤ _
    cases r with
    | nil => simp
    | cons x r => simpa using hl
  have HZ : Hid (∀ y ∈ hd0 r :: r.tail, y.size ≤ 1048576) := by
    intro y hy
    cases r with
    | nil => simp [hd0] at hy; subst hy; exact Nat.zero_le _
    | cons x r => exact hz y hy
  have hpd : Pt w.drew p r fl := h
  have hbB : b < w.heap.size := hbl
  have hpl' : p ≤ w.drew.heap.size := hpl
  have HC := hdN (HN.out w.drew r _ hpd hl hz (Below.refl _ _).drew)
  have HO := hdN hO
  have HB : Hid (Below p w w) := Below.refl _ _
  have HR : Hid (w.ownsRow w.heap.size 51 4 (.slice none 0 0) 0 (cellsE [])) := ownsNil _ _ _ _
  obtain ⟨x0, x1, x2, x3, x4, x5⟩ := six_cells hO
  obtain ⟨z0, z1, z2, z3, z4, z5⟩ := six_free hO
  clear x0 x1 x2 x3 x5 z0 z1 z2 z3 z5 hpd h hO
  go_enter Tryz.func33, Tryz.ntmps33
  go_upto_region 0 with fail
  go_region_law (first
        | (refine step_append_own rfl (.tmp 8) (.tmp 11) 35 rfl w.heap.size 51 j0 _ 4 48 Tryz.underlying35 ji jz0 jz1 jz2 rfl (by decide) _ _ _ (by simp [Act.eval, Act.put]) (HR1.out.alloc (.cells #[.string E.ky, .int .i64 E.sq, .int .i64 E.kd, .string E.vl] 51)) ⟨w1.heap.size, 0, none⟩ 1 1 [.string E.ky, .int .i64 E.sq, .int .i64 E.kd, .string E.vl] (by simp [Act.eval, Act.put]) rfl (cell_first4 w1 _ _ _ _ _) (fun x hx => by simp at hx; rcases hx with rfl | rfl | rfl | rfl <;> rfl) (by unfold maxLen; omega) (by omega) (by simp; omega) ?_; intro v8 w8 hown8 hgrow8 hnil8; obtain ⟨g8, cap8, rfl⟩ := owns_succD hown8; have HO8 := hdN (grow_op HO1.out HR1.out hgrow8 hbB); have t8 := (six_cells HO8.out).2.2.2.2.1; have f8 := (six_free HO8.out).2.2.2.2.1; have HP8 := hdN (grow_pt HP1.out HR1.out hgrow8 (Nat.lt_trans hpb hbB)); have HB8 := hdN (grow_below HB1.out HR1.out hgrow8 (Nat.le_of_lt (Nat.lt_trans hpb hbB)) hs1); have HW8 := hdN hown8; clear hown8 hgrow8 hnil8)
        | (go_simp; go_at_call 50; refine HC.out.mono ?_; rintro e w1 ⟨E, rfl, hE, hp1, ho1⟩; have HE := hdN hE; have HP1 := hdN hp1; have HO1 := hdN (HO.out.only (w := w.drew) ho1 (by omega)); have HR1 := hdN (owns_only (w := w.drew) HR.out ho1 (by omega)); have HB1 := hdN (HB.out.drew.trans (ho1.below (Nat.le_refl _) hpl')); have y5 := (six_cells HO1.out).2.2.2.2.1; have hs1 : w.heap.size ≤ w1.heap.size := HB1.out.size; have hb1 : b < w1.heap.size := Nat.lt_of_lt_of_le hbB hs1; clear hp1 ho1 hE))
  all_goals
    have HQ : Hid (BatI w p b (hd0 r :: r.tail) fl k ky vl n vk [hd0 r] r.tail (.slice (some ⟨g8, 0, none⟩) 1 cap8) [E] (w8.setCell ⟨b, 4, none⟩ (.slice (some ⟨g8, 0, none⟩) 1 cap8))) :=
      batI_step (pre := []) (Es := []) rfl HO8.out (by rw [List.any_nil, Bool.or_false]; exact HP8.out) HB8.out HW8.out rfl (fun vs hvs => by simpa using hvs) HE.out hpb hbB
    clear HO8 HP8 HB8 HW8 HE HP1 HO1 HR1 HB1 y5 HC HO HB HR hpl' x4 z4 hb1
    go_wp2_with fail
    clear t8 f8
    generalize w8.setCell ⟨b, 4, none⟩ (.slice (some ⟨g8, 0, none⟩) 1 cap8) = W0 at *
    go_loopw [] (fun W => ∃ (pre rest : List ByteArray) (u : Value) (Es : List En), Hid (BatI w p b (hd0 r :: r.tail) fl k ky vl n vk pre rest u Es W)) (fun W => lenP W p)
    case atStart => exact ⟨_, _, _, _, HQ⟩
    case round =>
      clear HQ
      obtain ⟨pre, rest, u, Es, HQ⟩ := hrel
      obtain ⟨hr, hp1, hO1, hB1, hR1, hL1, hE1⟩ := HQ.out
      have hrl : rest.length ≤ 1048577 := by
        have h0 := HLR.out
        rw [hr, List.length_append] at h0
        omega
      have HM := hdN (more_any p rest _ wr hp1 hrl)
      cases rest with
      | nil =>
        have hd : decide (0 < ([] : List ByteArray).length) = false := rfl
        rw [hd] at HM
        clear hp1 hO1 hB1 hR1 hL1 hE1
        go_wp2_with fail
        refine HM.out.mono ?_
        rintro e w' ⟨rfl, rfl⟩
        go_wp2_with fail
        go_end0
        obtain ⟨hr, hp1, hO1, hB1, hR1, hL1, hE1⟩ := HQ.out
        rw [List.append_nil] at hr
        refine ⟨⟨_, rfl⟩, u, Es, ?_, hO1, hB1, hR1, by rw [hr]; exact hE1⟩
        rw [← hr, List.any_cons] at hp1
        exact hp1
      | cons x rest =>
        have hd : decide (0 < (x :: rest).length) = true := rfl
        rw [hd] at HM
        have HL := hdN (lenP_Pt hp1)
        clear hp1 hO1 hB1 hR1 hL1 hE1
        go_wp2_with fail
        refine HM.out.mono ?_
        rintro e w' ⟨rfl, rfl⟩
        obtain ⟨hr, hp1, hO1, hB1, hR1, hL1, hE1⟩ := HQ.out
        have hpd : Pt w'.drew p (x :: rest) (fl || pre.any badI) := hp1
        have hpl' : p ≤ w'.drew.heap.size := Nat.le_of_lt hpd.lt
        have HC := hdN (HN.out w'.drew (x :: rest) _ hpd hrl (fun y hy => HZ.out y (by rw [hr]; exact List.mem_append_right _ hy)) hB1.drew)
        have hel : Es.length ≤ 1048578 := by
          have h0 := HLR.out
          rw [hr, List.length_append] at h0
          rw [hL1]; omega
        have hsz := hB1.size
        have HO := hdN hO1
        have HB := hdN hB1
        have HR := hdN hR1
        have HL1 := hdN hL1
        have HE1 := hdN hE1
        obtain ⟨x0, x1, x2, x3, x4, x5⟩ := six_cells hO1
        obtain ⟨z0, z1, z2, z3, z4, z5⟩ := six_free hO1
        clear x0 x1 x2 x3 x5 z0 z1 z2 z3 z5 hpd hp1 hO1 hB1 hR1 hL1 hE1 HM HQ
        go_upto_region 2 with fail
        go_region_law (first
          | (refine step_append_own rfl (.tmp 21) (.tmp 24) 35 rfl w.heap.size 51 j0 _ 4 48 Tryz.underlying35 ji jz0 jz1 jz2 rfl (by decide) _ _ _ (by simp [Act.eval, Act.put]) (HR1.out.alloc (.cells #[.string E.ky, .int .i64 E.sq, .int .i64 E.kd, .string E.vl] 51)) ⟨w1.heap.size, 0, none⟩ 1 1 [.string E.ky, .int .i64 E.sq, .int .i64 E.kd, .string E.vl] (by simp [Act.eval, Act.put]) rfl (cell_first4 w1 _ _ _ _ _) (fun x hx => by simp at hx; rcases hx with rfl | rfl | rfl | rfl <;> rfl) (by unfold maxLen; omega) (by omega) (by simp; omega) ?_; intro v8 w8 hown8 hgrow8 hnil8; obtain ⟨g8, cap8, rfl⟩ := owns_succD hown8; have HO8 := hdN (grow_op HO1.out HR1.out hgrow8 hbB); have t8 := (six_cells HO8.out).2.2.2.2.1; have f8 := (six_free HO8.out).2.2.2.2.1; have HP8 := hdN (grow_pt HP1.out HR1.out hgrow8 (Nat.lt_trans hpb hbB)); have HB8 := hdN (grow_below HB1.out HR1.out hgrow8 (Nat.le_of_lt (Nat.lt_trans hpb hbB)) hs1); have HW8 := hdN hown8; clear hown8 hgrow8 hnil8)
          | (go_simp; go_at_call 50; refine HC.out.mono ?_; rintro e w1 ⟨E, rfl, hE, hp1, ho1⟩; have HE := hdN hE; have HP1 := hdN hp1; have HO1 := hdN (HO.out.only (w := w'.drew) ho1 (by omega)); have HR1 := hdN (owns_only (w := w'.drew) HR.out ho1 (by omega)); have HB1 := hdN (HB.out.drew.trans (ho1.below (Nat.le_refl _) hpl')); have y5 := (six_cells HO1.out).2.2.2.2.1; have hs1 : w.heap.size ≤ w1.heap.size := HB1.out.size; have hb1 : b < w1.heap.size := Nat.lt_of_lt_of_le hbB hs1; clear hp1 ho1 hE))
        all_goals
          have HQ : Hid (BatI w p b (hd0 r :: r.tail) fl k ky vl n vk (pre ++ [x]) rest (.slice (some ⟨g8, 0, none⟩) (Es.length + 1) cap8) (Es ++ [E]) (w8.setCell ⟨b, 4, none⟩ (.slice (some ⟨g8, 0, none⟩) (Es.length + 1) cap8))) :=
            batI_step hr HO8.out HP8.out HB8.out HW8.out HL1.out HE1.out HE.out hpb hbB
          clear HO8 HP8 HB8 HW8 HE HP1 HO1 HR1 HB1 y5 HC HO HB HR hpl' x4 z4 hb1
          go_wp2_with fail
          refine ⟨⟨_, _, _, _, HQ⟩, ?_⟩
          rw [HL.out, lenP_Pt HQ.out.2.1]
          simp
end Go.Proofs.YtohpfjpgihcmiaaGreatDoor
