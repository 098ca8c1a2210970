import Derived.Test.YtgmfjninimebmaaGreatDoorMgRfT
import Derived.RangeFuncNested
import Derived.RangeFuncBound
import Derived.RangeFuncCalls
import Derived.RangeFuncLeaves
import Derived.Shelf.Abstract
import Derived.Shelf.RegionOpen
import Derived.WalkKit
import Derived.OwnWalkIn
import Derived.TacticsInMore
import Derived.LoopNIn
import Derived.LoopIn
namespace Go.Proofs.YtgmfjninimebmaaGreatDoor
open Go.RowKit Go.Maps Go.Shelf
attribute [local go_sem] Oper.semAt_some
set_option linter.unusedVariables false
set_option linter.unusedSimpArgs false

/-- A page. -/
abbrev Page := { x : ByteArray // x.size = 64 }
theorem ext_size (s : ByteArray) (a n : Nat) (h : a + n ≤ s.size) : (s.extract a (a + n)).size = n := by
  simp only [ByteArray.size_extract]
  omega
/-- Page k of the text from byte F on. -/
def pageAt (s : ByteArray) (F k : Nat) : Page := if h : F + 64 * k + 64 ≤ s.size then ⟨s.extract (F + 64 * k) (F + 64 * k + 64), ext_size s _ 64 h⟩ else ⟨⟨Array.replicate 64 0⟩, by simp [ByteArray.size]⟩
/-- The whole pages from byte F on. -/
def pagesL (s : ByteArray) (F : Nat) : List Page := (List.range ((s.size - F) / 64)).map (pageAt s F)

theorem ba_ext {a b : ByteArray} (h : a.data.toList = b.data.toList) : a = b := ByteArray.ext (Array.toList_inj.1 h)
theorem rest_data (s : ByteArray) (a : Nat) : (s.extract a s.size).data.toList = s.data.toList.drop a := by
  simp only [ByteArray.data_extract, Array.toList_extract, List.extract]
  rw [List.take_of_length_le]
  rw [List.length_drop, len_data]
  exact Nat.le_refl _
theorem page_rest (s : ByteArray) (F k : Nat) (h : F + 64 * k + 64 ≤ s.size) : (pageAt s F k).1 = (s.extract (F + 64 * k) s.size).extract 0 64 := by
  unfold pageAt
  rw [dif_pos h]
  apply ba_ext
  show (s.extract (F + 64 * k) (F + 64 * k + 64)).data.toList = ((s.extract (F + 64 * k) s.size).extract 0 (0 + 64)).data.toList
  rw [ext_data, ext_data, rest_data]
  try simp
theorem rest_rest (s : ByteArray) (F k : Nat) (h : F + 64 * k + 64 ≤ s.size) : (s.extract (F + 64 * k) s.size).extract 64 (s.extract (F + 64 * k) s.size).size = s.extract (F + 64 * (k + 1)) s.size := by
  apply ba_ext
  rw [rest_data, rest_data, rest_data, List.drop_drop]
  try congr 1
  try omega
theorem range_prefix (s : ByteArray) (F j : Nat) (h : j ≤ (s.size - F) / 64) : (List.range j).map (pageAt s F) <+: pagesL s F := by
  unfold pagesL
  obtain ⟨d, hd⟩ : ∃ d, (s.size - F) / 64 = j + d := ⟨(s.size - F) / 64 - j, by omega⟩
  rw [hd, List.range_add, List.map_append]
  exact List.prefix_append _ _

set_option maxRecDepth 100000 in
set_option maxHeartbeats 1000000 in
theorem pages1_in (F : Fence) (n : Nat) (h6 : F.fn 140) (hro : F.round = none) (hn : 1 ≤ n) (l bs bp n₀ : Nat) (s : ByteArray) (p : Nat) (hp : p * 64 + 64 ≤ s.size) (hs : s.size ≤ 1048576) (J Jx : List Page → World → Prop)
    (hY : ∀ pre (x : Page) W, J pre W → pre.length < (pagesL s (p * 64)).length → YieldAt F (n - 1) Tryz.prog l #[.string x.1] W fun e W' =>
      (e = .returned (.bool true) ∧ J (pre ++ [x]) W' ∧ Below n₀ W W') ∨ (e = .returned (.bool false) ∧ Jx (pre ++ [x]) W'))
    (W : World) (hbs : W.cell? ⟨bs, 0, none⟩ = some (.string s)) (hbp : W.cell? ⟨bp, 0, none⟩ = some (.int .i64 p)) (h0 : J [] W) :
    CallsIn F n Tryz.prog 140 #[.func (.yield l) #[] #[], .pointer (some ⟨bs, 0, none⟩), .pointer (some ⟨bp, 0, none⟩)] W fun e W' => (∃ v, e = .returned v) ∧
      ((∃ ys, ys = pagesL s (p * 64) ∧ J ys W') ∨ (∃ pre, pre <+: pagesL s (p * 64) ∧ Jx pre W')) := by
  have e1 : (0 : Int) ≤ (p : Int) * 64 := by omega
  have e2 : (p : Int) * 64 ≤ s.size := by omega
  refine callsIn_of_wp Tryz.func140 rfl h6 ?_ hro
  simp only [Tryz.ntmps140, List.size_toArray, List.length_cons, List.length_nil, Nat.reduceAdd, Nat.reduceSub, Array.replicate_succ, Array.replicate_zero, List.push_toArray, List.append_toArray, List.nil_append, List.cons_append]
  gi_wp2
  gi_loopw [4] (fun r wr => ∃ k : Nat, k ≤ (s.size - p * 64) / 64 ∧ r = .string (s.extract (p * 64 + 64 * k) s.size) ∧ J ((List.range k).map (pageAt s (p * 64))) wr) (fun r _ => (strOfV r).size)
  case atStart => exact ⟨0, Nat.zero_le _, rfl, h0⟩
  case round =>
    obtain ⟨k, hkm, rfl, hJ⟩ := hrel
    by_cases hk : k < (s.size - p * 64) / 64
    · have hpl : ((List.range k).map (pageAt s (p * 64))).length < (pagesL s (p * 64)).length := by simp only [pagesL, List.length_map, List.length_range]; exact hk
      have hx : (pageAt s (p * 64) k).1 = (s.extract (p * 64 + 64 * k) s.size).extract 0 64 := page_rest s (p * 64) k (by omega)
      have hnx : (s.extract (p * 64 + 64 * k) s.size).extract 64 (s.extract (p * 64 + 64 * k) s.size).size = s.extract (p * 64 + 64 * (k + 1)) s.size := rest_rest s (p * 64) k (by omega)
      have hrz : (s.extract (p * 64 + 64 * k) s.size).size = s.size - (p * 64 + 64 * k) := by simp only [ByteArray.size_extract]; omega
      have hz2 : (s.extract (p * 64 + 64 * (k + 1)) s.size).size = s.size - (p * 64 + 64 * (k + 1)) := by simp only [ByteArray.size_extract]; omega
      have hJn : Hid (((List.range k).map (pageAt s (p * 64))) ++ [pageAt s (p * 64) k] = (List.range (k + 1)).map (pageAt s (p * 64))) := by show _ = _; simp [List.range_succ]
      have hpf : Hid ((List.range (k + 1)).map (pageAt s (p * 64)) <+: pagesL s (p * 64)) := range_prefix _ _ _ (by omega)
      obtain ⟨fn, tmps, assign, body, hy, hR⟩ := hY _ (pageAt s (p * 64) k) wr hJ hpl
      rw [hx] at hy
      rw [hJn.out] at hR
      replace hx := hd hx
      replace hnx := hd hnx
      replace hz2 := hd hz2
      have hge : 64 ≤ (s.extract (p * 64 + 64 * k) s.size).size := by rw [hrz]; omega
      have hge' : (64 : Int) ≤ ((s.extract (p * 64 + 64 * k) s.size).size : Int) := by omega
      replace hrz := hd hrz
      generalize s.extract (p * 64 + 64 * k) s.size = r at *
      gi_wp2
      refine hR.mono ?_
      rintro e W3 (⟨rfl, hJ3, hk3⟩ | ⟨rfl, hJx3⟩)
      · gi_wp2
        go_roundw
        case rel => exact ⟨k + 1, by omega, by rw [← hnx.out], hJ3⟩
        case measure => simp only [strOfV]; have h1 := congrArg ByteArray.size hnx.out; rw [hz2.out] at h1; have h2 := hrz.out; omega
      · gi_wp2
        refine bodyPost_ret (results_none rfl _ _ _) rfl ?_
        exact ⟨⟨_, rfl⟩, .inr ⟨_, hpf.out, hJx3⟩⟩
    · obtain rfl : k = (s.size - p * 64) / 64 := by omega
      have hlt : (s.extract (p * 64 + 64 * ((s.size - p * 64) / 64)) s.size).size < 64 := by simp only [ByteArray.size_extract]; omega
      have hlt' : ((s.extract (p * 64 + 64 * ((s.size - p * 64) / 64)) s.size).size : Int) < 64 := by omega
      have hJ' : Hid (J (pagesL s (p * 64)) wr) := hJ
      clear hJ
      generalize s.extract (p * 64 + 64 * ((s.size - p * 64) / 64)) s.size = r at *
      gi_wp2
      go_end0
      exact ⟨⟨_, rfl⟩, .inl ⟨_, rfl, hJ'.out⟩⟩
end Go.Proofs.YtgmfjninimebmaaGreatDoor
namespace Go.Proofs.YtgmfjninimebmaaGreatDoor
open Go.RowKit Go.Maps Go.Shelf
attribute [local go_sem] Oper.semAt_some
set_option linter.unusedVariables false
set_option linter.unusedSimpArgs false

/-- pagesFrom: the function value that yields the pages. -/
theorem pages_in (F : Fence) (n : Nat) (h5 : F.fn 100) (hro : F.round = none) (s : ByteArray) (p : Nat) (w : World) :
    CallsIn F n Tryz.prog 100 #[.string s, .int .i64 p] w fun e w' => e = .returned (.func (.func 140) #[] #[.pointer (some ⟨w.heap.size, 0, none⟩), .pointer (some ⟨w.heap.size + 1, 0, none⟩)]) ∧ w' = (w.alloc (.cells #[.string s] 9)).alloc (.cells #[.int .i64 p] 3) := by
  refine callsIn_of_wp Tryz.func100 rfl h5 ?_ hro
  simp only [Tryz.ntmps100, List.size_toArray, List.length_cons, List.length_nil, Nat.reduceAdd, Nat.reduceSub, Array.replicate_succ, Array.replicate_zero, List.push_toArray, List.append_toArray, List.nil_append, List.cons_append]
  gi_wp2
  go_ret
  exact ⟨rfl, rfl⟩

theorem pages_stops (F : Fence) (n : Nat) (h6 : F.fn 140) (hro : F.round = none) (hn : 1 ≤ n) (bs bp n₀ : Nat) (s : ByteArray) (p : Nat) (hp : p * 64 + 64 ≤ s.size) (hs : s.size ≤ 1048576) (w : World) (hbs : bs < w.heap.size) (hbp : bp < w.heap.size)
    (hcs : w.cell? ⟨bs, 0, none⟩ = some (.string s)) (hcp : w.cell? ⟨bp, 0, none⟩ = some (.int .i64 p)) :
    SeqStopsK F n Tryz.prog 140 #[.pointer (some ⟨bs, 0, none⟩), .pointer (some ⟨bp, 0, none⟩)] (fun x : Page => #[Value.string x.1]) (Below n₀) (fun ys => ys = pagesL s (p * 64)) (fun pre => pre <+: pagesL s (p * 64)) (pagesL s (p * 64)).length w := fun l J Jx W hW _ _ hY h0 =>
  pages1_in F n h6 hro hn l bs bp n₀ s p hp hs J Jx hY W ((hW.cell (p := ⟨bs, 0, none⟩) hbs).trans hcs) ((hW.cell (p := ⟨bp, 0, none⟩) hbp).trans hcp) h0
end Go.Proofs.YtgmfjninimebmaaGreatDoor
namespace Go.Proofs.YtgmfjninimebmaaGreatDoor
open Go.RowKit Go.Maps Go.Shelf
attribute [local go_sem] Oper.semAt_some
set_option linter.unusedVariables false
set_option linter.unusedSimpArgs false

theorem bld_blocks {T : TypeId} {B b : Nat} {p : Value} {bs : List Value} {w w' : World} (h : Lib.BuilderAtF T 5 B b p bs w) (hb : ∀ (g : Nat) (o : Obj), w.heap[g]? = some o → o.isCells = true → w'.heap[g]? = some o) : Lib.BuilderAtF T 5 B b p bs w' := by
  obtain ⟨hB, v, hbk, ⟨h1, h2⟩, hne⟩ := h
  refine ⟨hB, v, hb b _ hbk rfl, ⟨h1, ?_⟩, hne⟩
  rcases h2 with h2 | ⟨g, cap, cur, fz, rfl, hg, hgk, hrest⟩
  · exact .inl h2
  · exact .inr ⟨g, cap, cur, fz, rfl, hg, hb g _ hgk rfl, hrest⟩
theorem Bld.blocks {B b : Nat} {l : List UInt8} {w w' : World} (h : Bld B b l w) (hb : ∀ (g : Nat) (o : Obj), w.heap[g]? = some o → o.isCells = true → w'.heap[g]? = some o) : Bld B b l w' :=
  h.elim (fun x => .inl (bld_blocks x hb)) (fun x => .inr (bld_blocks x hb))

/-- The boxes of frameContent. -/
structure FcB (n0 c : Nat) (r : ByteArray) (f : Bool) (l : List UInt8) (t : Nat) (W : World) : Prop where
  hc : W.heap[n0]? = some (.cells #[.int .i64 c] 3 (0, 0))
  hr : W.heap[n0 + 1]? = some (.cells #[.string r] 9 (0, 0))
  hf : W.heap[n0 + 2]? = some (.cells #[.bool f] 4 (0, 0))
  hb : Bld (n0 + 3) (n0 + 3) l W
  ht : W.heap[n0 + 4]? = some (.cells #[.int .i64 t] 3 (0, 0))
theorem FcB.blocks {n0 c t : Nat} {r : ByteArray} {f : Bool} {l : List UInt8} {W W' : World} (h : FcB n0 c r f l t W) (hb : ∀ (g : Nat) (o : Obj), W.heap[g]? = some o → o.isCells = true → W'.heap[g]? = some o) : FcB n0 c r f l t W' :=
  ⟨hb _ _ h.hc rfl, hb _ _ h.hr rfl, hb _ _ h.hf rfl, Bld.blocks h.hb hb, hb _ _ h.ht rfl⟩
/-- What pages hold beside their first bytes; whether those behind the first go on the frame. -/
def cont (pre : List Page) : List UInt8 := pre.flatMap fun x => x.1.data.toList.drop 1
def lead0 (x : Page) : UInt8 := x.1.data.toList.getD 0 0
def good (pre : List Page) : Prop := ∀ x ∈ pre.drop 1, lead0 x = 99
def FcI (n0 c : Nat) (w : World) (pre : List Page) (W : World) : Prop := (FcB n0 c ⟨#[]⟩ false (cont pre) pre.length W ∧ pre.length < c ∧ good pre) ∧ Below n0 w W
def FcX (n0 c : Nat) (w : World) (cd : Code) (pre : List Page) (W : World) : Prop := (cd = .ret ∧ ∃ l t, (FcB n0 c ⟨#[]⟩ false l t W ∧ pre.length ≤ c ∧ ¬ good pre) ∨ (FcB n0 c ⟨(cont pre).toArray⟩ true l t W ∧ pre.length = c ∧ good pre)) ∧ Below n0 w W
theorem kept_of {W W' : World} {row : Option Nat} (hg : W.grownBy W' row) (hr : ∀ r, row = some r → ∃ o : Obj, W.heap[r]? = some o ∧ o.isCells = false) : ∀ (g : Nat) (o : Obj), W.heap[g]? = some o → o.isCells = true → W'.heap[g]? = some o := fun g o h hc => (grownBy_keeps_cells hg hr h hc).trans h
theorem fcI_own (n0 c B : Nat) (w : World) (hn : n0 ≤ w.heap.size) (hB : n0 ≤ B) : OwnFrom B (FcI n0 c w) :=
  OwnFrom.and (Own.from (fun s A B' row hs hg hr => ⟨hs.1.blocks (kept_of hg hr), hs.2⟩) _) (ownFrom_below hn hB)
theorem fcX_own (n0 c B : Nat) (w : World) (hn : n0 ≤ w.heap.size) (hB : n0 ≤ B) (cd : Code) : OwnFrom B (FcX n0 c w cd) := by
  refine OwnFrom.and (Own.from (fun s A B' row hs hg hr => ?_) _) (ownFrom_below hn hB)
  obtain ⟨rfl, l, t, h | h⟩ := hs
  · exact ⟨rfl, l, t, .inl ⟨h.1.blocks (kept_of hg hr), h.2⟩⟩
  · exact ⟨rfl, l, t, .inr ⟨h.1.blocks (kept_of hg hr), h.2⟩⟩

theorem alloc_at (W : World) (o : Obj) (k : Nat) (hk : k = W.heap.size) : (W.alloc o).heap[k]? = some o := by subst hk; exact World.heap_alloc_new _ _
theorem fcB_new (w : World) (c p : Nat) (s : ByteArray) : FcB w.heap.size c ⟨#[]⟩ false [] 0 (((((((w.alloc (.cells #[.int .i64 c] 3)).alloc (.cells #[.string ⟨#[]⟩] 9)).alloc (.cells #[.bool false] 4)).alloc (.cells #[.pointer none, .slice none 0 0] 150)).alloc (.cells #[.int .i64 0] 3)).alloc (.cells #[.string s] 9)).alloc (.cells #[.int .i64 p] 3)) := by
  refine ⟨?_, ?_, ?_, .inl ⟨Nat.le_refl _, .slice none 0 0, ?_, ⟨rfl, .inl ⟨rfl, rfl⟩⟩, ?_⟩, ?_⟩
  · rw [Below.heap_alloc _ _ _ (by simp <;> omega), Below.heap_alloc _ _ _ (by simp <;> omega), Below.heap_alloc _ _ _ (by simp <;> omega), Below.heap_alloc _ _ _ (by simp <;> omega), Below.heap_alloc _ _ _ (by simp <;> omega), Below.heap_alloc _ _ _ (by simp)]
    exact alloc_at _ _ _ rfl
  · rw [Below.heap_alloc _ _ _ (by simp <;> omega), Below.heap_alloc _ _ _ (by simp <;> omega), Below.heap_alloc _ _ _ (by simp <;> omega), Below.heap_alloc _ _ _ (by simp <;> omega), Below.heap_alloc _ _ _ (by simp)]
    exact alloc_at _ _ _ (by simp)
  · rw [Below.heap_alloc _ _ _ (by simp <;> omega), Below.heap_alloc _ _ _ (by simp <;> omega), Below.heap_alloc _ _ _ (by simp <;> omega), Below.heap_alloc _ _ _ (by simp)]
    exact alloc_at _ _ _ (by simp)
  · rw [Below.heap_alloc _ _ _ (by simp <;> omega), Below.heap_alloc _ _ _ (by simp <;> omega), Below.heap_alloc _ _ _ (by simp)]
    exact alloc_at _ _ _ (by simp)
  · intro h; cases h
  · rw [Below.heap_alloc _ _ _ (by simp <;> omega), Below.heap_alloc _ _ _ (by simp)]
    exact alloc_at _ _ _ (by simp)
end Go.Proofs.YtgmfjninimebmaaGreatDoor
namespace Go.Proofs.YtgmfjninimebmaaGreatDoor
open Go.RowKit Go.Maps Go.Shelf
attribute [local go_sem] Oper.semAt_some
set_option linter.unusedVariables false
set_option linter.unusedSimpArgs false

theorem one_cell {W : World} {B : Nat} {v : Value} {t : TypeId} (h : W.heap[B]? = some (.cells #[v] t (0, 0))) : W.cell? ⟨B, 0, none⟩ = some v ∧ W.frozen? ⟨B, 0, none⟩ = false := by
  constructor <;> simp [World.cell?, World.frozen?, h]
theorem cont_len (pre : List Page) : (cont pre).length = 63 * pre.length := by
  induction pre with
  | nil => rfl
  | cons x r ih =>
    have hx : x.1.data.toList.length = 64 := by rw [len_data]; exact x.2
    simp only [cont, List.flatMap_cons, List.length_append, List.length_drop, List.length_cons] at *
    omega
theorem ext1_size (x : Page) : (x.1.extract 1 64).size = 63 := by have := x.2; simp only [ByteArray.size_extract]; omega
theorem ext1_data (x : Page) : (x.1.extract 1 64).data.toList = x.1.data.toList.drop 1 := by
  have h : (x.1.extract 1 64) = x.1.extract 1 x.1.size := by rw [x.2]
  rw [h, rest_data]
theorem bld_cells {B b : Nat} {l : List UInt8} {W : World} (h : Bld B b l W) : ∃ o, W.heap[b]? = some o ∧ o.isCells = true := by
  rcases h with ⟨hB, v, hbk, -⟩ | ⟨hB, v, hbk, -⟩
  · exact ⟨_, hbk, rfl⟩
  · exact ⟨_, hbk, rfl⟩
theorem bld_types {B b : Nat} {l : List UInt8} {w w' : World} (h : Bld B b l w) (hT : ∀ (g : Nat) (cs : Array Value) z, w.heap[g]? = some (.cells cs 150 z) → w'.heap[g]? = some (.cells cs 150 z)) (h5 : ∀ (g : Nat) (cs : Array Value) z, w.heap[g]? = some (.cells cs 5 z) → w'.heap[g]? = some (.cells cs 5 z)) : Bld B b l w' := by
  have key : ∀ {p : Value}, Lib.BuilderAtF 150 5 B b p (bc l) w → Lib.BuilderAtF 150 5 B b p (bc l) w' := fun {p} h => by
    obtain ⟨hB, v, hbk, ⟨h1, h2⟩, hne⟩ := h
    refine ⟨hB, v, hT b _ _ hbk, ⟨h1, ?_⟩, hne⟩
    rcases h2 with h2 | ⟨g, cap, cur, fz, rfl, hg, hgk, hrest⟩
    · exact .inl h2
    · exact .inr ⟨g, cap, cur, fz, rfl, hg, h5 g _ _ hgk, hrest⟩
  exact h.elim (fun x => .inl (key x)) (fun x => .inr (key x))
theorem bld_set {B b q : Nat} {l : List UInt8} {w : World} {cs : Array Value} {t : TypeId} (h : Bld B b l w) (hq : w.heap[q]? = some (.cells cs t (0, 0))) (hT : t ≠ 150) (h5 : t ≠ 5) (v : Value) : Bld B b l (w.setCell ⟨q, 0, none⟩ v) := by
  refine bld_types h (fun g cs' z hg => ?_) (fun g cs' z hg => ?_)
  · have hne : g ≠ q := fun e => by subst e; rw [hq] at hg; cases hg; exact hT rfl
    exact (Below.heap_setCell _ _ _ _ (by simpa using hne)).trans hg
  · have hne : g ≠ q := fun e => by subst e; rw [hq] at hg; cases hg; exact h5 rfl
    exact (Below.heap_setCell _ _ _ _ (by simpa using hne)).trans hg
theorem FcB.took {n0 c t : Nat} {r : ByteArray} {f : Bool} {l : List UInt8} {W : World} (h : FcB n0 c r f l t W) (t' : Nat) : FcB n0 c r f l t' (W.setCell ⟨n0 + 4, 0, none⟩ (.int .i64 t')) :=
  ⟨(Below.heap_setCell _ _ _ _ (by simp)).trans h.hc, (Below.heap_setCell _ _ _ _ (by simp)).trans h.hr, (Below.heap_setCell _ _ _ _ (by simp)).trans h.hf, bld_set h.hb h.ht (by decide) (by decide) _, by rw [heap_setCell_same _ _ _ _ _ _ h.ht]; simp⟩
theorem FcB.gave {n0 c t : Nat} {r : ByteArray} {f : Bool} {l : List UInt8} {W : World} (h : FcB n0 c r f l t W) (r' : ByteArray) (f' : Bool) : FcB n0 c r' f' l t ((W.setCell ⟨n0 + 1, 0, none⟩ (.string r')).setCell ⟨n0 + 2, 0, none⟩ (.bool f')) := by
  have h1 : FcB n0 c r' f l t (W.setCell ⟨n0 + 1, 0, none⟩ (.string r')) := ⟨(Below.heap_setCell _ _ _ _ (by simp)).trans h.hc, by rw [heap_setCell_same _ _ _ _ _ _ h.hr]; simp, (Below.heap_setCell _ _ _ _ (by simp)).trans h.hf, bld_set h.hb h.hr (by decide) (by decide) _, (Below.heap_setCell _ _ _ _ (by simp)).trans h.ht⟩
  exact ⟨(Below.heap_setCell _ _ _ _ (by simp)).trans h1.hc, (Below.heap_setCell _ _ _ _ (by simp)).trans h1.hr, by rw [heap_setCell_same _ _ _ _ _ _ h1.hf]; simp, bld_set h1.hb h1.hf (by decide) (by decide) _, (Below.heap_setCell _ _ _ _ (by simp)).trans h1.ht⟩
theorem cont_snoc (pre : List Page) (x : Page) : cont (pre ++ [x]) = cont pre ++ (x.1.extract 1 64).data.toList := by rw [ext1_data]; simp [cont]
theorem good_snoc0 {pre : List Page} {x : Page} (h : pre.length = 0) : good (pre ++ [x]) := by
  rw [List.length_eq_zero_iff] at h
  subst h
  intro y hy
  simp at hy
theorem good_snoc {pre : List Page} {x : Page} (h : good pre) (hx : lead0 x = 99) : good (pre ++ [x]) := by
  cases pre with
  | nil => exact good_snoc0 rfl
  | cons y r =>
    intro z hz
    have hz' : z ∈ r ++ [x] := by simpa using hz
    rcases List.mem_append.1 hz' with h1 | h1
    · exact h z (by simpa using h1)
    · simp at h1; subst h1; exact hx
theorem good_not {pre : List Page} {x : Page} (h : ¬ pre.length = 0) (hx : ¬ lead0 x = 99) : ¬ good (pre ++ [x]) := by
  intro hg
  cases pre with
  | nil => exact h rfl
  | cons y r => exact hx (hg x (by simp))
theorem good_mono {l : List Page} {m c : Nat} (h : m ≤ c) (hg : good (l.take c)) : good (l.take m) := by
  intro x hx
  refine hg x ?_
  have e : l.take m = (l.take c).take m := by rw [List.take_take]; congr 1; omega
  rw [e, List.drop_take] at hx
  exact List.mem_of_mem_take hx
theorem FcB.keeps {n0 c t : Nat} {r : ByteArray} {f : Bool} {l : List UInt8} {W W1 : World} (h : FcB n0 c r f l t W) (hbl : Below (n0 + 3) W W1) (hok : Lib.OthersKept 5 (some (n0 + 3)) W W1) : KeepsOthers W W1 := by
  obtain ⟨o, ho, hc⟩ := bld_cells h.hb
  refine ⟨hbl.size, fun k o' hk hn => hok k o' hk (fun e => ?_) (fun c fz e => by subst e; cases hn)⟩
  cases e
  rw [ho] at hk
  cases hk
  rw [hc] at hn
  cases hn
theorem FcB.wrote {n0 c t : Nat} {r : ByteArray} {f : Bool} {l l' : List UInt8} {W W1 : World} (h : FcB n0 c r f l t W) (hb : Bld (n0 + 3) (n0 + 3) l' W1) (hbl : Below (n0 + 3) W W1) (hok : Lib.OthersKept 5 (some (n0 + 3)) W W1) : FcB n0 c r f l' t W1 :=
  ⟨(hbl.block _ (by omega)).trans h.hc, (hbl.block _ (by omega)).trans h.hr, (hbl.block _ (by omega)).trans h.hf, hb, hok _ _ h.ht (fun e => by cases e) (fun c fz e => by cases e)⟩
/-- What frameContent gives of the pages ys. -/
def fcOut (c : Nat) (ys : List Page) : Prop := c ≤ ys.length ∧ good (ys.take c)

set_option maxRecDepth 100000 in
set_option maxHeartbeats 1000000 in
theorem frameContent_any (s : ByteArray) (p c : Nat) (w : World) (hp : p * 64 + 64 ≤ s.size) (hs : s.size ≤ 1048576) (hc : 1 ≤ c) (hc2 : c ≤ 70000000) :
    Calls Tryz.prog 72 #[.string s, .int .i64 p, .int .i64 c] w fun e w' => ((fcOut c (pagesL s (p * 64)) ∧ e = .returned (.tuple #[.string ⟨(cont ((pagesL s (p * 64)).take c)).toArray⟩, .bool true])) ∨ (¬ fcOut c (pagesL s (p * 64)) ∧ e = .returned (.tuple #[.string ⟨#[]⟩, .bool false]))) ∧ Below w.heap.size w w' := by
  refine (callsIn_wide (n := 3)).1 ?_
  refine callsIn_of_wp_marks Tryz.func72 rfl trivial ?_ rfl
  simp only [Tryz.ntmps72, List.size_toArray, List.length_cons, List.length_nil, Nat.reduceAdd, Nat.reduceSub, Array.replicate_succ, Array.replicate_zero, List.push_toArray, List.append_toArray, List.nil_append, List.cons_append]
  gi_wp2_with (refine ⟨trivial, ?_⟩; gi_at_call 100; refine (pages_in _ _ trivial rfl _ _ _).mono ?_; rintro e w' ⟨rfl, rfl⟩)
  have hnew := fcB_new w c p s
  have hcs : (((((((w.alloc (.cells #[.int .i64 c] 3)).alloc (.cells #[.string ⟨#[]⟩] 9)).alloc (.cells #[.bool false] 4)).alloc (.cells #[.pointer none, .slice none 0 0] 150)).alloc (.cells #[.int .i64 0] 3)).alloc (.cells #[.string s] 9)).alloc (.cells #[.int .i64 p] 3)).cell? ⟨w.heap.size + 5, 0, none⟩ = some (.string s) := by
    have h : (((((((w.alloc (.cells #[.int .i64 c] 3)).alloc (.cells #[.string ⟨#[]⟩] 9)).alloc (.cells #[.bool false] 4)).alloc (.cells #[.pointer none, .slice none 0 0] 150)).alloc (.cells #[.int .i64 0] 3)).alloc (.cells #[.string s] 9)).alloc (.cells #[.int .i64 p] 3)).heap[w.heap.size + 5]? = some (.cells #[.string s] 9 (0, 0)) := by
      rw [Below.heap_alloc _ _ _ (by simp <;> omega)]
      exact alloc_at _ _ _ (by simp)
    exact (one_cell h).1
  have hcp : (((((((w.alloc (.cells #[.int .i64 c] 3)).alloc (.cells #[.string ⟨#[]⟩] 9)).alloc (.cells #[.bool false] 4)).alloc (.cells #[.pointer none, .slice none 0 0] 150)).alloc (.cells #[.int .i64 0] 3)).alloc (.cells #[.string s] 9)).alloc (.cells #[.int .i64 p] 3)).cell? ⟨w.heap.size + 6, 0, none⟩ = some (.int .i64 p) := by
    have h : (((((((w.alloc (.cells #[.int .i64 c] 3)).alloc (.cells #[.string ⟨#[]⟩] 9)).alloc (.cells #[.bool false] 4)).alloc (.cells #[.pointer none, .slice none 0 0] 150)).alloc (.cells #[.int .i64 0] 3)).alloc (.cells #[.string s] 9)).alloc (.cells #[.int .i64 p] 3)).heap[w.heap.size + 6]? = some (.cells #[.int .i64 p] 3 (0, 0)) := alloc_at _ _ _ (by simp)
    exact (one_cell h).1
  have hsz : (((((((w.alloc (.cells #[.int .i64 c] 3)).alloc (.cells #[.string ⟨#[]⟩] 9)).alloc (.cells #[.bool false] 4)).alloc (.cells #[.pointer none, .slice none 0 0] 150)).alloc (.cells #[.int .i64 0] 3)).alloc (.cells #[.string s] 9)).alloc (.cells #[.int .i64 p] 3)).heap.size = w.heap.size + 7 := by simp
  have hbel : Below w.heap.size w (((((((w.alloc (.cells #[.int .i64 c] 3)).alloc (.cells #[.string ⟨#[]⟩] 9)).alloc (.cells #[.bool false] 4)).alloc (.cells #[.pointer none, .slice none 0 0] 150)).alloc (.cells #[.int .i64 0] 3)).alloc (.cells #[.string s] 9)).alloc (.cells #[.int .i64 p] 3)) := (((((((Below.refl _ _).alloc (by simp) _).alloc (by simp <;> omega) _).alloc (by simp <;> omega) _).alloc (by simp <;> omega) _).alloc (by simp <;> omega) _).alloc (by simp <;> omega) _).alloc (by simp <;> omega) _
  generalize (((((((w.alloc (.cells #[.int .i64 c] 3)).alloc (.cells #[.string ⟨#[]⟩] 9)).alloc (.cells #[.bool false] 4)).alloc (.cells #[.pointer none, .slice none 0 0] 150)).alloc (.cells #[.int .i64 0] 3)).alloc (.cells #[.string s] 9)).alloc (.cells #[.int .i64 p] 3)) = W0 at *
  refine wpIn_rangeFunc_ownF rfl (by omega) (gf := 140) (lb := #[.pointer (some ⟨w.heap.size + 5, 0, none⟩), .pointer (some ⟨w.heap.size + 6, 0, none⟩)]) rfl trivial (enters_of Tryz.func140 (by kernel_rfl) rfl)
    (pages_stops _ _ trivial rfl (by omega) (w.heap.size + 5) (w.heap.size + 6) 0 s p hp hs W0 (by omega) (by omega) hcs hcp) belowK_t (belowK_b (by omega)) (Below.refl _ _) (fun _ => rfl)
    (FcI w.heap.size c w) (FcX w.heap.size c w) (fcI_own _ _ _ _ (Nat.le_refl _) (by omega)) (fcX_own _ _ _ _ (Nat.le_refl _) (by omega)) ⟨⟨hnew, hc, fun x hx => by simp at hx⟩, hbel⟩
    (fun x => { tmps := #[.string s, .int .i64 p, .int .i64 c, undef, undef, .pointer (some ⟨w.heap.size, 0, none⟩), .pointer (some ⟨w.heap.size + 1, 0, none⟩), .pointer (some ⟨w.heap.size + 1 + 1, 0, none⟩), .pointer (some ⟨w.heap.size + 1 + 1 + 1, 0, none⟩), .pointer (some ⟨w.heap.size + 1 + 1 + 1 + 1, 0, none⟩), .string x.1, .string s, .int .i64 p, .func (.func 140) #[] #[.pointer (some ⟨w.heap.size + 1 + 1 + 1 + 1 + 1, 0, none⟩), .pointer (some ⟨w.heap.size + 1 + 1 + 1 + 1 + 1 + 1, 0, none⟩)], .string x.1, undef, undef, undef, undef, undef, undef, undef, undef, undef, undef, undef, undef, undef, undef, undef, undef], defers := [] }) ?assign ?body ?done ?stop
  case assign =>
    intro l x W K hK
    gi_wp2
    exact hK
  case body =>
    rintro l pre x W ⟨⟨hI, hlen, hgood⟩, hB⟩ hN
    obtain ⟨r0, r1⟩ := one_cell hI.hr
    obtain ⟨f0, f1⟩ := one_cell hI.hf
    obtain ⟨t0, t1⟩ := one_cell hI.ht
    obtain ⟨k0, k1⟩ := one_cell hI.hc
    have hx := x.2
    have hx1 : (0 : Nat) < x.1.size := by omega
    have hx2 : (1 : Int) ≤ x.1.size := by omega
    have hWs : w.heap.size + 3 ≤ W.heap.size := by have := heap_lt hI.ht; omega
    by_cases hpos : pre.length = 0
    · have hp0 : ¬ (0 : Int) < (pre.length : Int) := by omega
      have hp0' : decide ((0 : Int) < (pre.length : Int)) = false := by rw [decide_eq_false_iff_not]; exact hp0
      replace hpos := hd hpos
      gi_wp2_with fail
      refine ⟨trivial, (CallsIn.inRound l (callsIn_wide.2 (writeString_any (w.heap.size + 3) (w.heap.size + 3) (cont pre) (x.1.extract 1 64) W hI.hb (by rw [cont_len, ext1_size x]; omega) hWs))).mono ?_⟩
      rintro e W1 ⟨rfl, hb1, hbl1, hok1⟩
      have g1 : Hid (FcB w.heap.size c ⟨#[]⟩ false (cont pre ++ (x.1.extract 1 64).data.toList) pre.length W1) := hI.wrote hb1 hbl1 hok1
      have ko1 : Hid (KeepsOthers W W1) := hI.keeps hbl1 hok1
      have hB1 : Hid (Below w.heap.size w W1) := hB.trans (hbl1.mono (by omega))
      have z1 : Hid (Below 0 W W1) := hbl1.mono (by omega)
      obtain ⟨t2, t3⟩ := one_cell g1.out.ht
      obtain ⟨k2, k3⟩ := one_cell g1.out.hc
      obtain ⟨r2, r3⟩ := one_cell g1.out.hr
      obtain ⟨f2, f3⟩ := one_cell g1.out.hf
      have hcl := (cont_snoc pre x).symm
      clear hb1 hbl1 hok1 t0 t1 k0 k1 r0 r1 f0 f1
      generalize cont pre ++ (x.1.extract 1 64).data.toList = L1 at *
      replace hcl := hd hcl
      by_cases hend : pre.length + 1 = c
      · have hq : ((pre.length : Int) + 1 == (c : Int)) = true := by rw [beq_iff_eq]; omega
        replace hend := hd hend
        have g2 : Hid (FcB w.heap.size c ⟨#[]⟩ false L1 (pre.length + 1) (W1.setCell ⟨w.heap.size + 4, 0, none⟩ (.int .i64 ((pre.length + 1 : Nat) : Int)))) := g1.out.took _
        have hs2 : Hid (w.heap.size + 3 ≤ (W1.setCell ⟨w.heap.size + 4, 0, none⟩ (.int .i64 ((pre.length + 1 : Nat) : Int))).heap.size) := by have := heap_lt g1.out.ht; show _ ≤ _; simp; omega
        gi_wp2_with fail
        refine ⟨trivial, (CallsIn.inRound l (callsIn_wide.2 (Tryz.Builder_String_any_k (w.heap.size + 3) (w.heap.size + 3) _ _ g2.out.hb hs2.out))).mono ?_⟩
        rintro e W2 ⟨rfl, hb2, hbl2, hok2⟩
        have g3 : Hid (FcB w.heap.size c ⟨#[]⟩ false L1 (pre.length + 1) W2) := g2.out.wrote hb2 hbl2 hok2
        have ko2 : Hid (KeepsOthers W W2) := (ko1.out.trans (KeepsOthers.setCell _ _ _)).trans (g2.out.keeps hbl2 hok2)
        have hB2 : Hid (Below w.heap.size w W2) := (hB1.out.setCell (p := ⟨w.heap.size + 4, 0, none⟩) (by simp) _).trans (hbl2.mono (by omega))
        obtain ⟨r4, r5⟩ := one_cell g3.out.hr
        obtain ⟨f4, f5⟩ := one_cell g3.out.hf
        clear hb2 hbl2 hok2 t2 t3 k2 k3 r2 r3 f2 f3
        gi_wp2_with fail
        refine ⟨(ko2.out.trans (KeepsOthers.setCell _ _ _)).trans (KeepsOthers.setCell _ _ _), ⟨rfl, L1, pre.length + 1, .inr ⟨?_, ?_, ?_⟩⟩, (hB2.out.setCell (p := ⟨w.heap.size + 1, 0, none⟩) (by simp) _).setCell (p := ⟨w.heap.size + 2, 0, none⟩) (by simp) _⟩
        · rw [← hcl.out]; exact g3.out.gave _ _
        · have := hend.out; rw [List.length_append, List.length_singleton]; omega
        · exact good_snoc0 hpos.out
      · have hq : ((pre.length : Int) + 1 == (c : Int)) = false := by rw [beq_eq_false_iff_ne]; omega
        replace hend := hd hend
        gi_wp2_with fail
        refine ⟨ko1.out.trans (KeepsOthers.setCell _ _ _), z1.out.setCell (Nat.zero_le _) _, ⟨?_, ?_, ?_⟩, hB1.out.setCell (p := ⟨w.heap.size + 4, 0, none⟩) (by simp) _⟩
        · rw [← hcl.out, List.length_append]; exact g1.out.took _
        · have := hend.out; rw [List.length_append, List.length_singleton]; omega
        · exact good_snoc0 hpos.out
    · have hp0 : (0 : Int) < (pre.length : Int) := by omega
      have hp0' : decide ((0 : Int) < (pre.length : Int)) = true := by rw [decide_eq_true_iff]; exact hp0
      have HL : Hid (x.1[0] = lead0 x) := byte_get x.1 0 hx1
      replace hpos := hd hpos
      by_cases h99 : x.1[0].toNat = 99
      · have hne : ((x.1[0].toNat : Int) != 99) = false := by rw [h99]; rfl
        have hl99 : Hid (lead0 x = 99) := by show _ = _; rw [← HL.out]; exact UInt8.toNat_inj.1 h99
        replace h99 := hd h99
        gi_wp2_with fail
        refine ⟨trivial, (CallsIn.inRound l (callsIn_wide.2 (writeString_any (w.heap.size + 3) (w.heap.size + 3) (cont pre) (x.1.extract 1 64) W hI.hb (by rw [cont_len, ext1_size x]; omega) hWs))).mono ?_⟩
        rintro e W1 ⟨rfl, hb1, hbl1, hok1⟩
        have g1 : Hid (FcB w.heap.size c ⟨#[]⟩ false (cont pre ++ (x.1.extract 1 64).data.toList) pre.length W1) := hI.wrote hb1 hbl1 hok1
        have ko1 : Hid (KeepsOthers W W1) := hI.keeps hbl1 hok1
        have hB1 : Hid (Below w.heap.size w W1) := hB.trans (hbl1.mono (by omega))
        have z1 : Hid (Below 0 W W1) := hbl1.mono (by omega)
        obtain ⟨t2, t3⟩ := one_cell g1.out.ht
        obtain ⟨k2, k3⟩ := one_cell g1.out.hc
        obtain ⟨r2, r3⟩ := one_cell g1.out.hr
        obtain ⟨f2, f3⟩ := one_cell g1.out.hf
        have hcl := (cont_snoc pre x).symm
        clear hb1 hbl1 hok1 t0 t1 k0 k1 r0 r1 f0 f1
        generalize cont pre ++ (x.1.extract 1 64).data.toList = L1 at *
        replace hcl := hd hcl
        by_cases hend : pre.length + 1 = c
        · have hq : ((pre.length : Int) + 1 == (c : Int)) = true := by rw [beq_iff_eq]; omega
          replace hend := hd hend
          have g2 : Hid (FcB w.heap.size c ⟨#[]⟩ false L1 (pre.length + 1) (W1.setCell ⟨w.heap.size + 4, 0, none⟩ (.int .i64 ((pre.length + 1 : Nat) : Int)))) := g1.out.took _
          have hs2 : Hid (w.heap.size + 3 ≤ (W1.setCell ⟨w.heap.size + 4, 0, none⟩ (.int .i64 ((pre.length + 1 : Nat) : Int))).heap.size) := by have := heap_lt g1.out.ht; show _ ≤ _; simp; omega
          gi_wp2_with fail
          refine ⟨trivial, (CallsIn.inRound l (callsIn_wide.2 (Tryz.Builder_String_any_k (w.heap.size + 3) (w.heap.size + 3) _ _ g2.out.hb hs2.out))).mono ?_⟩
          rintro e W2 ⟨rfl, hb2, hbl2, hok2⟩
          have g3 : Hid (FcB w.heap.size c ⟨#[]⟩ false L1 (pre.length + 1) W2) := g2.out.wrote hb2 hbl2 hok2
          have ko2 : Hid (KeepsOthers W W2) := (ko1.out.trans (KeepsOthers.setCell _ _ _)).trans (g2.out.keeps hbl2 hok2)
          have hB2 : Hid (Below w.heap.size w W2) := (hB1.out.setCell (p := ⟨w.heap.size + 4, 0, none⟩) (by simp) _).trans (hbl2.mono (by omega))
          obtain ⟨r4, r5⟩ := one_cell g3.out.hr
          obtain ⟨f4, f5⟩ := one_cell g3.out.hf
          clear hb2 hbl2 hok2 t2 t3 k2 k3 r2 r3 f2 f3
          gi_wp2_with fail
          refine ⟨(ko2.out.trans (KeepsOthers.setCell _ _ _)).trans (KeepsOthers.setCell _ _ _), ⟨rfl, L1, pre.length + 1, .inr ⟨?_, ?_, ?_⟩⟩, (hB2.out.setCell (p := ⟨w.heap.size + 1, 0, none⟩) (by simp) _).setCell (p := ⟨w.heap.size + 2, 0, none⟩) (by simp) _⟩
          · rw [← hcl.out]; exact g3.out.gave _ _
          · have := hend.out; rw [List.length_append, List.length_singleton]; omega
          · exact good_snoc hgood hl99.out
        · have hq : ((pre.length : Int) + 1 == (c : Int)) = false := by rw [beq_eq_false_iff_ne]; omega
          replace hend := hd hend
          gi_wp2_with fail
          refine ⟨ko1.out.trans (KeepsOthers.setCell _ _ _), z1.out.setCell (Nat.zero_le _) _, ⟨?_, ?_, ?_⟩, hB1.out.setCell (p := ⟨w.heap.size + 4, 0, none⟩) (by simp) _⟩
          · rw [← hcl.out, List.length_append]; exact g1.out.took _
          · have := hend.out; rw [List.length_append, List.length_singleton]; omega
          · exact good_snoc hgood hl99.out
      · have hne : ((x.1[0].toNat : Int) != 99) = true := by rw [bne_iff_ne]; omega
        replace h99 := hd h99
        gi_wp2_with fail
        refine ⟨(KeepsOthers.setCell _ _ _).trans (KeepsOthers.setCell _ _ _), ⟨rfl, cont pre, pre.length, .inl ⟨hI.gave _ _, ?_, ?_⟩⟩, (hB.setCell (p := ⟨w.heap.size + 1, 0, none⟩) (by simp) _).setCell (p := ⟨w.heap.size + 2, 0, none⟩) (by simp) _⟩
        · rw [List.length_append, List.length_singleton]; omega
        · refine good_not hpos.out fun e => h99.out ?_
          rw [HL.out, e]
          rfl
  case done =>
    rintro D ys W hD rfl ⟨⟨hI, hlen, hgood⟩, hB⟩ hK
    obtain ⟨r0, r1⟩ := one_cell hI.hr
    obtain ⟨f0, f1⟩ := one_cell hI.hf
    gi_wp2
    have hK' := ((KeepsOthers.setCell W ⟨w.heap.size + 1, 0, none⟩ (.string ⟨#[]⟩)).trans (KeepsOthers.setCell _ ⟨w.heap.size + 2, 0, none⟩ (.bool false))).same D _ hK rfl
    have hG := (hI.gave ⟨#[]⟩ false).blocks (kept_of (grownBy_putObj' _ D (.deferred none)) (fun r e => by cases e; exact ⟨_, hK', rfl⟩))
    have hB' := ((hB.setCell (p := ⟨w.heap.size + 1, 0, none⟩) (by simp) (.string ⟨#[]⟩)).setCell (p := ⟨w.heap.size + 2, 0, none⟩) (by simp) (.bool false))
    have hBp := hB'.trans (belowK_b (w := w) (Nat.le_refl _) _ D _ (.deferred none) (by omega) hK' rfl rfl)
    refine ⟨by simp, .inl ⟨_, _, rfl, run_takeDeferred hK', ?_⟩⟩
    obtain ⟨c1, -⟩ := one_cell hG.hr
    obtain ⟨c2, -⟩ := one_cell hG.hf
    refine ⟨.tuple #[.string ⟨#[]⟩, .bool false], by simp [results, Tryz.results72, go_sem, c1, c2], .inr ⟨fun h => ?_, rfl⟩, hBp⟩
    have := h.1
    omega
  case stop =>
    rintro D cd pre W hD hpre ⟨⟨rfl, l, t, hI⟩, hB⟩ hK
    gi_wp2
    have hBp := hB.trans (belowK_b (w := w) (Nat.le_refl _) _ D _ (.deferred none) (by omega) hK rfl rfl)
    have hpe : pre = (pagesL s (p * 64)).take pre.length := List.prefix_iff_eq_take.1 hpre
    have hple : pre.length ≤ (pagesL s (p * 64)).length := hpre.length_le
    refine ⟨by simp, .inl ⟨_, _, rfl, run_takeDeferred hK, ?_⟩⟩
    rcases hI with ⟨hI, h1, h2⟩ | ⟨hI, h1, h2⟩
    · have hG := hI.blocks (kept_of (grownBy_putObj' _ D (.deferred none)) (fun r e => by cases e; exact ⟨_, hK, rfl⟩))
      obtain ⟨c1, -⟩ := one_cell hG.hr
      obtain ⟨c2, -⟩ := one_cell hG.hf
      refine ⟨.tuple #[.string ⟨#[]⟩, .bool false], by simp [results, Tryz.results72, go_sem, c1, c2], .inr ⟨fun h => h2 ?_, rfl⟩, hBp⟩
      rw [hpe]
      exact good_mono h1 h.2
    · have hG := hI.blocks (kept_of (grownBy_putObj' _ D (.deferred none)) (fun r e => by cases e; exact ⟨_, hK, rfl⟩))
      obtain ⟨c1, -⟩ := one_cell hG.hr
      obtain ⟨c2, -⟩ := one_cell hG.hf
      rw [h1] at hpe
      refine ⟨.tuple #[.string ⟨(cont pre).toArray⟩, .bool true], by simp [results, Tryz.results72, go_sem, c1, c2], .inl ⟨⟨by omega, by rw [← hpe]; exact h2⟩, by rw [← hpe]⟩, hBp⟩
end Go.Proofs.YtgmfjninimebmaaGreatDoor
namespace Go.Proofs.YtgmfjninimebmaaGreatDoor
open Go.RowKit Go.Maps
set_option linter.unusedVariables false
set_option linter.unusedSimpArgs false

theorem pagesL_take (s : ByteArray) (F c : Nat) (h : c ≤ (s.size - F) / 64) : (pagesL s F).take c = (List.range c).map (pageAt s F) := by
  unfold pagesL
  rw [← List.map_take, List.take_range, Nat.min_eq_left h]
theorem page_data (s : ByteArray) (F k : Nat) (h : F + 64 * k + 64 ≤ s.size) : (pageAt s F k).1.data.toList = (s.data.toList.drop (F + 64 * k)).take 64 := by
  unfold pageAt
  rw [dif_pos h]
  exact ext_data s _ 64
theorem cont_range (s : ByteArray) (F c : Nat) (h : F + 64 * c ≤ s.size) : cont ((List.range c).map (pageAt s F)) = content s.data.toList F c := by
  induction c with
  | zero => rfl
  | succ c ih =>
    rw [List.range_succ, List.map_append, content_succ _ _ _ (by rw [len_data]; exact h), ← ih (by omega)]
    have e : (pageAt s F c).1.data.toList.drop 1 = (s.data.toList.drop (F + 64 * c + 1)).take 63 := by
      rw [page_data s F c (by omega), List.drop_take, List.drop_drop]
    simp only [cont, List.flatMap_append, List.map_cons, List.map_nil, List.flatMap_cons, List.flatMap_nil, List.append_nil, e]
theorem lead0_page (s : ByteArray) (F k : Nat) (h : F + 64 * k + 64 ≤ s.size) : lead0 (pageAt s F k) = s.data.toList.getD (F + k * 64) 0 := by
  unfold lead0
  rw [page_data s F k h]
  simp only [List.getD]
  rw [List.getElem?_take_of_lt (by omega), List.getElem?_drop, show F + 64 * k + 0 = F + k * 64 by omega]
theorem good_range (s : ByteArray) (F c : Nat) (h : F + 64 * c ≤ s.size) : good ((List.range c).map (pageAt s F)) ↔ marks s.data.toList F c = true := by
  rw [marks_iff]
  constructor
  · intro hg i h1 h2
    rw [← lead0_page s F i (by omega)]
    refine hg _ ?_
    rw [List.mem_iff_getElem]
    refine ⟨i - 1, by simp; omega, ?_⟩
    simp [Nat.sub_add_cancel h1]
  · intro hm x hx
    rw [List.mem_iff_getElem] at hx
    obtain ⟨i, hi, rfl⟩ := hx
    simp at hi
    simp only [List.getElem_drop, List.getElem_map, List.getElem_range]
    rw [lead0_page s F _ (by omega)]
    exact hm _ (by omega) (by omega)
theorem fcOut_iff (s : ByteArray) (F c : Nat) (hF : F ≤ s.size) : fcOut c (pagesL s F) ↔ (F + 64 * c ≤ s.size ∧ marks s.data.toList F c = true) := by
  have hl : (pagesL s F).length = (s.size - F) / 64 := by simp [pagesL]
  unfold fcOut
  rw [hl]
  constructor
  · rintro ⟨h1, h2⟩
    rw [pagesL_take s F c h1, good_range s F c (by omega)] at h2
    exact ⟨by omega, h2⟩
  · rintro ⟨h1, h2⟩
    refine ⟨by omega, ?_⟩
    rw [pagesL_take s F c (by omega), good_range s F c h1]
    exact h2
theorem fc_text (s : ByteArray) (F c : Nat) (h : F + 64 * c ≤ s.size) : cont ((pagesL s F).take c) = content s.data.toList F c := by
  rw [pagesL_take s F c (by omega), cont_range s F c h]
end Go.Proofs.YtgmfjninimebmaaGreatDoor
