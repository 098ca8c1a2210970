import Derived.Test.YtphikgobdfknkaaGreatDoorRlG
import Derived.RangeFuncNested
import Derived.RangeFuncBound
import Derived.RangeFuncCalls
import Derived.RangeFuncLeaves
import Derived.Shelf.Abstract
import Derived.Shelf.RegionOpen
import Derived.WalkKit
import Derived.OwnWalkIn
import Derived.TacticsInMore
import Derived.LoopNIn
import Derived.LoopIn
import Derived.Maps.OwnIn
import Derived.Shelf.SlSortCmp.KitK
namespace Go.Proofs.YtphikgobdfknkaaGreatDoor
open Go.RowKit Go.Maps Go.Shelf
attribute [local go_sem] Oper.semAt_some
set_option linter.unusedVariables false
set_option linter.unusedSimpArgs false

theorem one_cellN {W : World} {B : Nat} {v : Value} {t : TypeId} (h : W.heap[B]? = some (.cells #[v] t (0, 0))) : W.cell? ⟨B, 0, none⟩ = some v ∧ W.frozen? ⟨B, 0, none⟩ = false := by
  constructor <;> simp [World.cell?, World.frozen?, h]
theorem kept_ofN {W W' : World} {row : Option Nat} (hg : W.grownBy W' row) (hr : ∀ r, row = some r → ∃ o : Obj, W.heap[r]? = some o ∧ o.isCells = false) : ∀ (g : Nat) (o : Obj), W.heap[g]? = some o → o.isCells = true → W'.heap[g]? = some o := fun g o h hc => (grownBy_keeps_cells hg hr h hc).trans h
theorem owns_blocksN {W W' : World} {B n size : Nat} {e : TypeId} {v : Value} {xs : List Value} (h : W.ownsRow B e size v n xs) (hb : ∀ (g : Nat) (o : Obj), W.heap[g]? = some o → o.isCells = true → W'.heap[g]? = some o) : W'.ownsRow B e size v n xs := by
  obtain ⟨h1, h2⟩ := h
  refine ⟨h1, ?_⟩
  rcases h2 with h2 | ⟨g, cap, cur, rfl, hg, hbk, hrest⟩
  · exact .inl h2
  · exact .inr ⟨g, cap, cur, rfl, hg, hb _ _ hbk rfl, hrest⟩
theorem owns_neN {W : World} {B n b size : Nat} {e : TypeId} {v : Value} {xs : List Value} (h : W.ownsRow B e size v n xs) {cs : Array Value} {t : TypeId} {fz : Nat × Nat} (hb : W.heap[b]? = some (.cells cs t fz)) (ht : t ≠ e) : some b ≠ v.ownBlock := by
  obtain ⟨-, h2⟩ := h
  intro e'
  rcases h2 with ⟨rfl, -⟩ | ⟨g, cap, cur, rfl, hg, hbk, -⟩
  · cases e'
  · cases e'
    rw [hb] at hbk
    cases hbk
    exact ht rfl
theorem owns_cellsN {W : World} {B n j size : Nat} {e : TypeId} {v : Value} {xs : List Value} (h : W.ownsRow B e size v n xs) (e' : v.ownBlock = some j) : ∃ cs, W.heap[j]? = some (.cells cs e (0, 0)) := by
  obtain ⟨-, h2⟩ := h
  rcases h2 with ⟨rfl, -⟩ | ⟨g, cap, cur, rfl, hg, hbk, -⟩
  · cases e'
  · cases e'
    exact ⟨_, hbk⟩
theorem owns_storeN {W : World} {B n b size : Nat} {e : TypeId} {v : Value} {xs : List Value} (h : W.ownsRow B e size v n xs) {cs : Array Value} {t : TypeId} {fz : Nat × Nat} (hb : W.heap[b]? = some (.cells cs t fz)) (ht : t ≠ e) (u : Value) : (W.setCell ⟨b, 0, none⟩ u).ownsRow B e size v n xs := by
  obtain ⟨h1, h2⟩ := h
  refine ⟨h1, ?_⟩
  rcases h2 with h2 | ⟨g, cap, cur, rfl, hg, hbk, hrest⟩
  · exact .inl h2
  · have hne : g ≠ b := fun e' => by subst e'; rw [hb] at hbk; cases hbk; exact ht rfl
    exact .inr ⟨g, cap, cur, rfl, hg, (Below.heap_setCell _ _ _ _ (by simpa using hne)).trans hbk, hrest⟩
theorem heap_setCell_boxN {W : World} {b : Nat} {v : Value} {t : TypeId} (h : W.heap[b]? = some (.cells #[v] t (0, 0))) (u : Value) : (W.setCell ⟨b, 0, none⟩ u).heap[b]? = some (.cells #[u] t (0, 0)) := by
  rw [heap_setCell_same _ _ _ _ _ _ h]
  rfl

/-- slices.Values: the list in a box, the iterator bound to it. -/
theorem values_in (F : Fence) (n : Nat) (h5 : F.fn 98) (hro : F.round = none) (a : Option Addr) (k c : Nat) (w : World) :
    CallsIn F n Tryz.prog 98 #[.slice a k c] w fun e w' => e = .returned (.func (.func 117) #[] #[.pointer (some ⟨w.heap.size, 0, none⟩)]) ∧ w' = w.alloc (.cells #[.slice a k c] 38) := by
  refine callsIn_of_wp Tryz.func98 rfl h5 ?_ hro
  simp only [Tryz.ntmps98, List.size_toArray, List.length_cons, List.length_nil, Nat.reduceAdd, Nat.reduceSub, Array.replicate_succ, Array.replicate_zero, List.push_toArray, List.append_toArray, List.nil_append, List.cons_append]
  gi_wp2
  go_ret
  exact ⟨rfl, rfl⟩

set_option maxRecDepth 100000 in
set_option maxHeartbeats 1000000 in
/-- Its iterator, for every loop body that leaves what lies below n₀. -/
theorem values1_in (n : Nat) (hn : 1 ≤ n) (l bs n₀ c : Nat) (xs : List Tr) (a : Option Addr) (w0 W0 : World) (ht : LieT w0 a xs) (hl : xs.length ≤ 2000) (hs0 : w0.heap.size ≤ n₀) (hb0 : Below w0.heap.size w0 W0) (hn0 : n₀ ≤ W0.heap.size) (J Jx : List Tr → World → Prop) (hJ : AbidesFrom W0.heap.size J)
    (hY : ∀ pre (x : Tr) W, J pre W → pre.length < xs.length → YieldAt Fence.wide (n - 1) Tryz.prog l #[x.agg] W fun e W' =>
      (e = .returned (.bool true) ∧ J (pre ++ [x]) W' ∧ Below n₀ W W') ∨ (e = .returned (.bool false) ∧ Jx (pre ++ [x]) W'))
    (hbs : W0.cell? ⟨bs, 0, none⟩ = some (.slice a xs.length c)) (h0 : J [] W0) :
    CallsIn Fence.wide n Tryz.prog 117 #[.func (.yield l) #[] #[], .pointer (some ⟨bs, 0, none⟩)] W0 fun e W' => (∃ v, e = .returned v) ∧
      ((∃ ys, ys = xs ∧ J ys W') ∨ (∃ pre, pre <+: xs ∧ Jx pre W')) := by
  replace hY := hd hY
  refine callsIn_of_wp Tryz.func117 rfl trivial ?_ rfl
  simp only [Tryz.ntmps117, List.size_toArray, List.length_cons, List.length_nil, Nat.reduceAdd, Nat.reduceSub, Array.replicate_succ, Array.replicate_zero, List.push_toArray, List.append_toArray, List.nil_append, List.cons_append]
  gi_wp2
  gi_loopw [7] (fun r wr => ∃ k : Nat, r = .int .i64 k ∧ k ≤ xs.length ∧ J (xs.take k) wr ∧ Below n₀ W0 wr) (fun r _ => xs.length - (intOf r).toNat)
  case atStart => exact ⟨0, rfl, Nat.zero_le _, by simpa using h0, Below.refl _ _⟩
  case round =>
    obtain ⟨k, rfl, hk, hJr, hbr⟩ := hrel
    have hbs' := hbr.size
    by_cases hlt : k < xs.length
    · obtain ⟨tb, off, rfl, hbl, cA0, cA1, cA2, cA3⟩ := ht.at hlt
      have hbb := hb0.trans (hbr.mono hs0)
      have c0 := (hbb.cell (p := ⟨tb, _, none⟩) hbl).trans cA0
      have c1 := (hbb.cell (p := ⟨tb, _, none⟩) hbl).trans cA1
      have c2 := (hbb.cell (p := ⟨tb, _, none⟩) hbl).trans cA2
      have c3 := (hbb.cell (p := ⟨tb, _, none⟩) hbl).trans cA3
      have hik : (k : Int) < (xs.length : Int) := by omega
      have HTk : Hid (xs.take (k + 1) = xs.take k ++ [xs.getD k tr0]) := takeT_snoc xs k hlt
      have HPf : Hid (xs.take k ++ [xs.getD k tr0] <+: xs) := by show _ <+: _; rw [← HTk.out]; exact List.take_prefix _ _
      have HLn : Hid ((xs.take k).length < xs.length) := by show _ < _; rw [List.length_take]; omega
      have HJr := hd hJr
      have HBr := hd hbr
      clear cA0 cA1 cA2 cA3 hbb hJr hbr hbs
      generalize xs.getD k tr0 = f at *
      obtain ⟨fn, fl, flo, fhi⟩ := f
      dsimp only at *
      obtain ⟨fnc, tmps, assign, body, hy, hR⟩ := hY.out (xs.take k) ⟨fn, fl, flo, fhi⟩ (wr.alloc (.cells #[.int .i64 fn, .int .i64 fl, .string flo, .string fhi] 45)) (hJ _ wr _ none HJr.out (World.grownBy_alloc _ _ none) (fun r e => by cases e)) HLn.out
      gi_wp2
      refine hR.mono ?_
      rintro e W3 (⟨rfl, hJ3, hk3⟩ | ⟨rfl, hJx3⟩)
      · have HB3 := hd ((HBr.out.alloc (by omega) _).trans hk3)
        clear c0 c1 c2 c3 hk3
        gi_wp2
        refine ⟨⟨k + 1, by simp, by omega, by rw [HTk.out]; exact hJ3, HB3.out⟩, ?_⟩
        simp only [intOf]
        omega
      · gi_wp2
        refine bodyPost_ret (results_none rfl _ _ _) rfl ?_
        exact ⟨⟨_, rfl⟩, .inr ⟨_, HPf.out, hJx3⟩⟩
    · obtain rfl : k = xs.length := by omega
      have hik : ¬ (xs.length : Int) < (xs.length : Int) := by omega
      rw [List.take_length] at hJr
      gi_wp2
      go_end0
      first | exact ⟨⟨_, rfl⟩, .inl hJr⟩ | exact ⟨⟨_, rfl⟩, .inl ⟨_, rfl, hJr⟩⟩

theorem values_stops (n : Nat) (hn : 1 ≤ n) (bs n₀ c : Nat) (xs : List Tr) (a : Option Addr) (w0 w : World) (ht : LieT w0 a xs) (hl : xs.length ≤ 2000) (hs0 : w0.heap.size ≤ n₀) (hb0 : Below w0.heap.size w0 w) (hn0 : n₀ ≤ w.heap.size) (hbs : bs < w.heap.size)
    (hcs : w.cell? ⟨bs, 0, none⟩ = some (.slice a xs.length c)) :
    SeqStopsK Fence.wide n Tryz.prog 117 #[.pointer (some ⟨bs, 0, none⟩)] (fun x : Tr => #[x.agg]) (Below n₀) (fun ys => ys = xs) (fun pre => pre <+: xs) xs.length w := fun l J Jx W hW hJ _ hY h0 =>
  values1_in n hn l bs n₀ c xs a w0 W ht hl hs0 (hb0.trans (hW.mono hb0.size)) (Nat.le_trans hn0 hW.size) J Jx hJ hY ((hW.cell (p := ⟨bs, 0, none⟩) hbs).trans hcs) h0

/-- What AppendSeq has: its list in a box at n0, a row of its own. -/
structure AsB (n0 : Nat) (pre : List Tr) (v : Value) (W : World) : Prop where
  hv : W.heap[n0]? = some (.cells #[v] 38 (0, 0))
  hrow : W.ownsRow n0 45 4 v pre.length (cellsT pre)
theorem AsB.blocks {n0 : Nat} {pre : List Tr} {v : Value} {W W' : World} (h : AsB n0 pre v W) (hb : ∀ (g : Nat) (o : Obj), W.heap[g]? = some o → o.isCells = true → W'.heap[g]? = some o) : AsB n0 pre v W' :=
  ⟨hb _ _ h.hv rfl, owns_blocksN h.hrow hb⟩
theorem AsB.below {n0 : Nat} {pre : List Tr} {v : Value} {W W' : World} (h : AsB n0 pre v W) (hb : Below W.heap.size W W') : AsB n0 pre v W' := h.blocks (fun g o hg _ => (hb.block g (heap_lt hg)).trans hg)
def AsI (n0 : Nat) (w : World) (pre : List Tr) (W : World) : Prop := (∃ v, AsB n0 pre v W) ∧ Below n0 w W
theorem asI_own (n0 : Nat) (B : Nat) (w : World) (hn : n0 ≤ w.heap.size) (hB : n0 ≤ B) : OwnFrom B (AsI n0 w) :=
  OwnFrom.and (Own.from (fun _ A B' row hs hg hr => hs.imp fun v h => h.blocks (kept_ofN hg hr)) _) (ownFrom_below hn hB)
theorem AsB.app {n0 : Nat} {pre : List Tr} {x : Tr} {v v' : Value} {W w1 : World} {o : Obj} (h : AsB n0 pre v W) (hg : (W.alloc o).grownBy w1 v.ownBlock) (hrow : w1.ownsRow n0 45 4 v' (pre.length + 1) (cellsT pre ++ [.int .i64 x.nu, .int .i64 x.lv, .string x.lo, .string x.hi])) :
    w1.heap[n0]? = some (.cells #[v] 38 (0, 0)) ∧ AsB n0 (pre ++ [x]) v' (w1.setCell ⟨n0, 0, none⟩ v') ∧ Below n0 W (w1.setCell ⟨n0, 0, none⟩ v') ∧ KeepsOthers W (w1.setCell ⟨n0, 0, none⟩ v') := by
  have hb : Below W.heap.size W (W.alloc o) := (Below.refl _ _).alloc (Nat.le_refl _) _
  have hsz : (W.alloc o).heap.size = W.heap.size + 1 := by simp
  have hvl := heap_lt h.hv
  have e1 : w1.heap[n0]? = some (.cells #[v] 38 (0, 0)) := ((hg.block _ (by omega) (owns_neN h.hrow h.hv (by decide))).trans (hb.block _ hvl)).trans h.hv
  have hko : KeepsOthers W (w1.setCell ⟨n0, 0, none⟩ v') := ((KeepsOthers.alloc _ _).trans (KeepsOthers.of_grownBy hg (fun j o' e hj => by
    obtain ⟨cs, hc⟩ := owns_cellsN h.hrow e
    rw [hb.block j (heap_lt hc), hc] at hj
    cases hj
    rfl))).trans (KeepsOthers.setCell _ _ _)
  refine ⟨e1, ⟨heap_setCell_boxN e1 v', ?_⟩, ?_, hko⟩
  · rw [List.length_append, cellsT_snoc]
    exact owns_storeN hrow e1 (by decide) v'
  · exact ((hb.mono (by omega)).grown hg (by omega) (owns_base h.hrow)).setCell (p := ⟨n0, 0, none⟩) (by simp) v'

set_option maxRecDepth 100000 in
set_option maxHeartbeats 2000000 in
/-- slices.AppendSeq of nothing and a list's values: the list, in a row of its own. -/
theorem appendSeq_in (n : Nat) (hn : 3 ≤ n) (bs c : Nat) (xs : List Tr) (a : Option Addr) (w0 w : World) (ht : LieT w0 a xs) (hl : xs.length ≤ 2000) (hb0 : Below w0.heap.size w0 w) (hbs : bs < w.heap.size) (hcs : w.cell? ⟨bs, 0, none⟩ = some (.slice a xs.length c)) :
    CallsIn Fence.wide n Tryz.prog 137 #[.slice none 0 0, .func (.func 117) #[] #[.pointer (some ⟨bs, 0, none⟩)]] w fun e w' => ∃ v, e = .returned v ∧ w'.ownsRow w.heap.size 45 4 v xs.length (cellsT xs) ∧ Below w.heap.size w w' := by
  obtain ⟨i0, hi, hz0, hz1, hz2⟩ := info_parts iRef_info
  refine callsIn_of_wp_marks Tryz.func137 rfl trivial ?_ rfl
  simp only [Tryz.ntmps137, List.size_toArray, List.length_cons, List.length_nil, Nat.reduceAdd, Nat.reduceSub, Array.replicate_succ, Array.replicate_zero, List.push_toArray, List.append_toArray, List.nil_append, List.cons_append]
  gi_wp2
  have hnew : AsB w.heap.size [] (.slice none 0 0) (w.alloc (.cells #[.slice none 0 0] 38)) := ⟨World.heap_alloc_new _ _, ⟨rfl, .inl ⟨rfl, rfl⟩⟩⟩
  have hbel : Below w.heap.size w (w.alloc (.cells #[.slice none 0 0] 38)) := (Below.refl _ _).alloc (Nat.le_refl _) _
  have hsz : (w.alloc (.cells #[.slice none 0 0] 38)).heap.size = w.heap.size + 1 := by simp
  generalize w.alloc (.cells #[.slice none 0 0] 38) = Wl at *
  refine wpIn_rangeFunc_ownH rfl (by omega) (gf := 117) (lb := #[.pointer (some ⟨bs, 0, none⟩)]) rfl trivial (enters_of Tryz.func117 (by kernel_rfl) rfl)
    (values_stops _ (by omega) bs w.heap.size c xs a w0 w ht hl hb0.size hb0 (Nat.le_refl _) hbs hcs) belowK_t (belowK_b (by omega)) hbel (fun _ => rfl)
    (AsI w.heap.size w) (fun _ _ _ => False) (asI_own _ _ _ (Nat.le_refl _) (by omega)) (fun _ _ _ _ _ h => h.elim) ⟨⟨_, hnew⟩, hbel⟩
    (fun x a' W => ∃ Bx, W.heap[Bx]? = some (.cells #[.int .i64 x.nu, .int .i64 x.lv, .string x.lo, .string x.hi] 45 (0, 0)) ∧ a' = { tmps := #[.slice none 0 0, .func (.func 117) #[] #[.pointer (some ⟨bs, 0, none⟩)], .pointer (some ⟨w.heap.size, 0, none⟩), undef, .slice none 0 0, .pointer (some ⟨Bx, 0, none⟩), .func (.func 117) #[] #[.pointer (some ⟨bs, 0, none⟩)], x.agg, undef, undef, undef, undef, undef], defers := [] })
    ?ax ?assign ?body ?done ?stop
  case ax =>
    intro x a'
    refine Own.from (fun _ A B' row hs hg hr => ?_) _
    obtain ⟨Bx, h1, h2⟩ := hs
    exact ⟨Bx, kept_ofN hg hr _ _ h1 rfl, h2⟩
  case assign =>
    rintro l pre x W K ⟨⟨v, hI⟩, hB⟩ hK
    have hwl := hB.size
    gi_wp2
    have hb1 : Below W.heap.size W (W.alloc (.cells #[.int .i64 x.nu, .int .i64 x.lv, .string x.lo, .string x.hi] 45)) := (Below.refl _ _).alloc (Nat.le_refl _) _
    exact hK _ _ ((KeepsOthers.alloc _ _).from _) (hb1.mono hwl) ⟨⟨v, hI.below hb1⟩, hB.trans (hb1.mono hwl)⟩ ⟨W.heap.size, World.heap_alloc_new _ _, rfl⟩
  case body =>
    rintro l pre x a' W hl' ⟨r, hr⟩ ⟨⟨v, hI⟩, hB⟩ ⟨Bx, hX, rfl⟩ hlt
    obtain ⟨x0, x1, x2, x3⟩ := four_cells hX
    obtain ⟨v0, v1⟩ := one_cellN hI.hv
    have HI : Hid (AsB w.heap.size pre v W) := hI
    have HB : Hid (Below w.heap.size w W) := hB
    have HC : Hid (∀ j u, [Value.int .i64 x.nu, .int .i64 x.lv, .string x.lo, .string x.hi][j]? = some u → (W.alloc (.cells #[.int .i64 x.nu, .int .i64 x.lv, .string x.lo, .string x.hi] 45)).cell? ((⟨W.heap.size, 0, none⟩ : Addr).add j) = some u) := cell_first4 W _ _ _ _ _
    have HO : Hid (∀ u ∈ [Value.int .i64 x.nu, .int .i64 x.lv, .string x.lo, .string x.hi], u.oneCell' = true) := fun u hu => by
      simp at hu
      rcases hu with rfl | rfl | rfl | rfl <;> rfl
    have HBs : Hid (w.heap.size ≤ (W.alloc (.cells #[.int .i64 x.nu, .int .i64 x.lv, .string x.lo, .string x.hi] 45)).heap.size) := by show _ ≤ _; have := hB.size; simp; omega
    clear hI hB hX hr
    gi_wp2_with (gi_at_builtin; refine wpListIn_append_own_at _ rfl _ _ 38 rfl w.heap.size 45 i0 _ 4 48 Tryz.underlying38 hi hz0 hz1 hz2 rfl (by decide) _ _ _ rfl (HI.out.hrow.alloc _) ⟨W.heap.size, 0, none⟩ 1 1 [.int .i64 x.nu, .int .i64 x.lv, .string x.lo, .string x.hi] rfl rfl HC.out HO.out (by unfold maxLen; omega) (by omega) HBs.out ?_; intro v' w1 hown' hgrow _ hat; have hA := hd (HI.out.app hgrow hown'); obtain ⟨g', cap', rfl⟩ := ownsRow_succ hown'; obtain ⟨y0, y1⟩ := one_cellN hA.out.1; clear hown' hgrow hat)
    obtain ⟨-, d1, d2, d3⟩ := hA.out
    exact ⟨d3.from _, d2, ⟨_, d1⟩, HB.out.trans d2⟩
  case done =>
    rintro D ys W hD rfl ⟨⟨v, hI⟩, hB⟩ hK
    obtain ⟨v0, v1⟩ := one_cellN hI.hv
    obtain ⟨-, a9, cap, rfl, -⟩ := resT_of_owns hI.hrow
    gi_wp2
    have hBp := hB.trans (belowK_b (w := w) (Nat.le_refl _) _ D _ (.deferred none) (by omega) hK rfl rfl)
    refine ⟨by simp, .inl ⟨_, _, rfl, run_takeDeferred hK, ?_⟩⟩
    exact ⟨_, results_tmp rfl _ _ _, _, rfl, owns_blocksN hI.hrow (kept_ofN (row := some D) (grownBy_putObj' W D (.deferred none)) (fun r e => by cases e; exact ⟨_, hK, rfl⟩)), hBp⟩
  case stop =>
    rintro D cd pre W hD hpre h hK
    exact h.elim
end Go.Proofs.YtphikgobdfknkaaGreatDoor
namespace Go.Proofs.YtphikgobdfknkaaGreatDoor
open Go.RowKit Go.Maps Go.Shelf
set_option linter.unusedVariables false
set_option linter.unusedSimpArgs false

/-- A reference's four cells. -/
def encT (x : Tr) : List Value := [.int .i64 x.nu, .int .i64 x.lv, .string x.lo, .string x.hi]
theorem encT_at [Inhabited Tr] (d : Array Tr) (j : Nat) (hj : j < d.size * 4) : (cellsT d.toList)[j]? = some ((encT d[j / 4]!)[j % 4]!) := by
  obtain ⟨i, r, hr, rfl⟩ : ∃ i r, r < 4 ∧ j = i * 4 + r := ⟨j / 4, j % 4, by omega, by omega⟩
  have hi : i < d.size := by omega
  obtain ⟨a0, a1, a2, a3⟩ := cellsT_at d.toList i (by simpa using hi)
  have e1 : (i * 4 + r) / 4 = i := by omega
  have e2 : (i * 4 + r) % 4 = r := by omega
  have e3 : d[i]! = d.toList.getD i tr0 := by simp [List.getD, hi]
  rw [e1, e2, e3]
  rcases r with _ | _ | _ | _ | r
  · exact a0
  · exact a1
  · exact a2
  · exact a3
  · omega
theorem flat_at [Inhabited Tr] (d : Array Tr) (j : Nat) (hj : j < d.size * 4) : (cellsT d.toList)[j]? = some ((Go.Sort.flatK encT 4 d)[j]!) := by
  rw [Go.Sort.get_flatK _ _ _ _ hj]
  exact encT_at d j hj
/-- A row that is owned holds its cells, as the sort has it. -/
theorem holdsT [Inhabited Tr] {w : World} {g : Nat} {cur : Array Value} {t : TypeId} {d : Array Tr} (hb : w.heap[g]? = some (.cells cur t (0, 0))) (htk : cur.toList.take (d.size * 4) = cellsT d.toList) : Go.Sort.HoldsK encT 4 w g 0 d := by
  intro j hj
  rw [Go.Sort.size_flatK] at hj
  have h1 : cur[j]? = some ((Go.Sort.flatK encT 4 d)[j]!) := by
    rw [← flat_at d j hj, ← htk, List.getElem?_take_of_lt hj]
    simp
  constructor
  · simp [World.cell?, hb, h1]
  · simp [World.frozen?, hb]
theorem putT_owns [Inhabited Tr] {w : World} {B g cap n m : Nat} {cur : Array Value} {dk : Array Tr} {os : Array Obj} (hb : w.heap[g]? = some (.cells cur 45 (0, 0))) (hB : B ≤ g) (hn : dk.size = n) (h1 : n ≤ cap) (h2 : cap ≤ maxLen) (h3 : cur.size = cap * 4) :
    (sortWorldK encT 4 w g 0 m dk os).ownsRow B 45 4 (.slice (some ⟨g, 0, none⟩) n cap) n (cellsT dk.toList) ∧ Below B w (sortWorldK encT 4 w g 0 m dk os) := by
  have hlt := heap_lt hb
  have hsz : (sortWorldK encT 4 w g 0 m dk os).heap.size = w.heap.size + os.size := by
    simp [sortWorldK, Go.Sort.grow, Go.Sort.putRowK, Go.Sort.putRow, Go.Sort.mapBlock, Go.Sort.ahead]
  have hat : ∀ k, k < w.heap.size → (sortWorldK encT 4 w g 0 m dk os).heap[k]? = if g = k then (w.heap[k]?).map (Go.Sort.onCells (Go.Sort.putCells id 0 (Go.Sort.flatK encT 4 dk))) else w.heap[k]? := fun k hk => by
    show ((w.heap.modify g (Go.Sort.onCells (Go.Sort.putCells id 0 (Go.Sort.flatK encT 4 dk)))) ++ os)[k]? = _
    rw [Array.getElem?_append_left (by simpa using hk), Array.getElem?_modify]
  refine ⟨⟨?_, .inr ⟨g, cap, Go.Sort.putCells id 0 (Go.Sort.flatK encT 4 dk) cur, rfl, hB, ?_, h1, h2, ?_, ?_⟩⟩, ⟨rfl, rfl, rfl, by omega, fun k hk => ?_⟩⟩
  · rw [cellsT_len]
    simp [hn]
  · rw [hat g hlt, if_pos rfl, hb]
    rfl
  · simp [Go.Sort.putCells, h3]
  · refine List.ext_getElem? fun j => ?_
    by_cases hj : j < n * 4
    · rw [List.getElem?_take_of_lt hj]
      have hjc : j < cur.size := by rw [h3]; omega
      have hf := flat_at dk j (by rw [hn]; exact hj)
      rw [hf]
      simp [Go.Sort.putCells, hjc, hn, hj]
    · rw [List.getElem?_eq_none (by simp; omega), List.getElem?_eq_none (by rw [cellsT_len]; simp [hn]; omega)]
  · by_cases hk2 : k < w.heap.size
    · rw [hat k hk2, if_neg (by omega)]
    · omega

theorem grown_ofT {w w' : World} (h : Below w.heap.size w w') (hd : w.drawn ≤ w'.drawn) : ∃ q os, w' = Go.Sort.grow (w.drewN q) os := by
  refine ⟨w'.drawn - w.drawn, w'.heap.extract w.heap.size w'.heap.size, ?_⟩
  obtain ⟨h1, h2, h3, h4, h5⟩ := h
  have hh : w'.heap = w.heap ++ w'.heap.extract w.heap.size w'.heap.size := by
    refine Array.ext (by simp; omega) fun i hi1 hi2 => ?_
    by_cases hi : i < w.heap.size
    · have := h5 i hi
      rw [Array.getElem?_eq_getElem hi1, Array.getElem?_eq_getElem hi] at this
      rw [Array.getElem_append_left hi]
      exact Option.some.inj this
    · rw [Array.getElem_append_right (by omega)]
      simp [Array.getElem_extract, show w.heap.size + (i - w.heap.size) = i by omega]
  have hdr : w.drawn + (w'.drawn - w.drawn) = w'.drawn := by omega
  obtain ⟨hp, tp, dr, os, out⟩ := w
  obtain ⟨hp', tp', dr', os', out'⟩ := w'
  simp only [Go.Sort.grow, World.drewN] at *
  subst h1 h2 h3
  rw [hdr, ← hh]
theorem cmpT_lays [Inhabited Tr] (blk off size : Nat) (w : World) : CmpLays Tryz.prog 99 #[] encT 4 ordT blk off size w := fun m os dk _ x y =>
  (refOrder_any x y _).mono fun e w' ⟨he, hb, hd⟩ => ⟨he, grown_ofT hb hd⟩
theorem ltT (x y : Tr) : ltOf ordT x y = rBef x y := ordT_lt x y
theorem rBef_iff (x y : Tr) : rBef x y = true ↔ x.lv < y.lv ∨ (x.lv = y.lv ∧ x.nu < y.nu) := by
  unfold rBef
  by_cases h : x.lv = y.lv <;> simp [h] <;> omega
theorem swoT : Go.Sort.SWO (ltOf ordT) := ⟨fun x => by
    rw [ltT]
    cases h : rBef x x with
    | false => rfl
    | true => rw [rBef_iff] at h; omega, fun x y z h1 h2 => by
    rw [ltT, rBef_iff] at *
    omega, fun x y z h1 h2 => by
    rw [ltT] at *
    cases h : rBef x z with
    | false => rfl
    | true =>
      have h1' : ¬ rBef x y = true := by rw [h1]; simp
      have h2' : ¬ rBef y z = true := by rw [h2]; simp
      rw [rBef_iff] at h h1' h2'
      omega⟩
end Go.Proofs.YtphikgobdfknkaaGreatDoor
