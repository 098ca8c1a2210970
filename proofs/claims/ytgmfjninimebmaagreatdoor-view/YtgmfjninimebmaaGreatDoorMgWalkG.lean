import Derived.Test.YtgmfjninimebmaaGreatDoorMgWalkD
import Derived.Maps.OwnSet
import Derived.Maps.OwnOps
import Derived.Maps.Ext
namespace Go.Proofs.YtgmfjninimebmaaGreatDoor
open Go.RowKit Go.Maps
set_option linter.unusedVariables false
set_option linter.unusedSimpArgs false

/-! What a directory's map holds. -/
/-- A content as a value, and as it reads. -/
abbrev contV (d : ByteArray) (a : Int) : Value := .agg #[.string d, .int .i64 a]
abbrev contD (d : ByteArray) (a : Int) : DataW Unit := .agg [.lit (.string d.data.toList), .lit (.int .i64 a)]
def contR : Value → Option (DataW Unit × List MemPlace)
  | .agg cs => match cs.toList with
    | [.string d, .int .i64 a] => some (contD d a, [])
    | _ => none
  | _ => none
theorem contR_mk (d : ByteArray) (a : Int) : contR (contV d a) = some (contD d a, []) := rfl
theorem contR_inv {v : Value} {z : DataW Unit} {ps : List MemPlace} (h : contR v = some (z, ps)) : ∃ d a, v = contV d a ∧ z = contD d a := by
  unfold contR at h
  split at h
  · rename_i cs
    split at h
    · rename_i d a e
      simp only [Option.some.injEq, Prod.mk.injEq] at h
      refine ⟨d, a, ?_, h.1.symm⟩
      have : cs = #[.string d, .int .i64 a] := by rw [← Array.toArray_toList (xs := cs), e]
      rw [this]
    · cases h
  · cases h
theorem contD_inj {d d' : ByteArray} {a a' : Int} (h : contD d a = contD d' a') : d = d' ∧ a = a' := by
  simp only [contD, DataW.agg.injEq, List.cons.injEq, DataW.lit.injEq, Lit.string.injEq, Lit.int.injEq, true_and, and_true] at h
  exact ⟨ByteArray.ext (Array.toList_inj.1 h.1), h.2⟩

theorem keyed : Keyed Tryz.prog 9 := string_keyed Tryz.underlying9
theorem keyS {s : ByteArray} (h : s.size ≤ maxLen) : keyOf Tryz.prog 9 (.string s) = some (.string s.data.toList) := Go.WideMaps.keyOf_string_mk Tryz.underlying9 h

/-- Block b is a map of c contents, and m says which. -/
def Dir (w : World) (b c : Nat) (m : List UInt8 → Option (ByteArray × Int)) : Prop :=
  ∃ D : DataW Unit, w.ownsMap Tryz.prog 9 contR b c D ∧ Maps.size D = c ∧
    ∀ l, (∀ x, m l = some x → Maps.has D (.string l) = true ∧ ∀ z, D.atKey (.string l) z = contD x.1 x.2) ∧ (m l = none → Maps.has D (.string l) = false)

/-- m with one content laid at k. -/
def upd (m : List UInt8 → Option (ByteArray × Int)) (k : List UInt8) (x : ByteArray × Int) : List UInt8 → Option (ByteArray × Int) := fun l => if l = k then some x else m l
/-- m without k. -/
def del (m : List UInt8 → Option (ByteArray × Int)) (k : List UInt8) : List UInt8 → Option (ByteArray × Int) := fun l => if l = k then none else m l

theorem Dir.alloc {w : World} {b c : Nat} {m : List UInt8 → Option (ByteArray × Int)} (h : Dir w b c m) (o : Obj) : Dir (w.alloc o) b c m := by
  obtain ⟨D, h1, h2, h3⟩ := h
  exact ⟨D, h1.alloc o, h2, h3⟩
theorem Dir.lt {w : World} {b c : Nat} {m : List UInt8 → Option (ByteArray × Int)} (h : Dir w b c m) : b < w.heap.size := by
  obtain ⟨D, h1, _⟩ := h
  exact h1.lt
theorem Dir.block {w w' : World} {b c : Nat} {m : List UInt8 → Option (ByteArray × Int)} (h : Dir w b c m) (hb : w'.heap[b]? = w.heap[b]?) : Dir w' b c m := by
  obtain ⟨D, ⟨es, clock, e1, e2⟩, h2, h3⟩ := h
  exact ⟨D, ⟨es, clock, hb.trans e1, e2⟩, h2, h3⟩
theorem Dir.below {w w' : World} {B b c : Nat} {m : List UInt8 → Option (ByteArray × Int)} (h : Dir w b c m) (hb : Below B w w') (hB : b < B) : Dir w' b c m := h.block (hb.block b hB)
theorem Dir.setCell {w : World} {b c : Nat} {m : List UInt8 → Option (ByteArray × Int)} (h : Dir w b c m) {a : Addr} {v : Value} (ha : b ≠ a.block) : Dir (w.setCell a v) b c m := h.block (Below.heap_setCell _ _ _ _ ha)

theorem Dir.made (w : World) : Dir (w.alloc (.map #[] 0)) w.heap.size 0 (fun _ => none) :=
  ⟨.map [], World.ownsMap_made w Tryz.prog 9 contR, rfl, fun l => ⟨fun x h => absurd h (by simp), fun _ => rfl⟩⟩

/-- 'v, ok := m[k]'. -/
theorem Dir.look {w : World} {b c : Nat} {m : List UInt8 → Option (ByteArray × Int)} (h : Dir w b c m) {s : ByteArray} (hs : s.size ≤ maxLen) :
    (Instr.lookup 80 (.map (some b)) (.string s) true).run Tryz.prog w = .ok (.tuple #[contV ((m s.data.toList).getD (ByteArray.empty, 0)).1 ((m s.data.toList).getD (ByteArray.empty, 0)).2, .bool (m s.data.toList).isSome]) w := by
  obtain ⟨D, h1, h2, h3⟩ := h
  obtain ⟨v, ps, hrun, hv⟩ := h1.look_ok keyed Tryz.underlying80 (z := contV ByteArray.empty 0) (Tryz.zeroValue96 w) (contR_mk _ _) (keyS hs)
  rw [hrun]
  obtain ⟨h4, h5⟩ := h3 s.data.toList
  cases hm : m s.data.toList with
  | none =>
    rw [Maps.atKey_of_not_has (h5 hm)] at hv
    obtain ⟨d, a, rfl, e⟩ := contR_inv hv
    obtain ⟨rfl, rfl⟩ := contD_inj e
    rw [h5 hm]
    rfl
  | some x =>
    obtain ⟨h6, h7⟩ := h4 x hm
    rw [h7] at hv
    obtain ⟨d, a, rfl, e⟩ := contR_inv hv
    obtain ⟨e1, e2⟩ := contD_inj e
    rw [h6]
    simp [e1, e2]

theorem isKeyS (l : List UInt8) : WideAt.IsKeyLit (.string l) := by trivial

/-- 'm[k] = v'. -/
theorem Dir.store {w : World} {b c : Nat} {m : List UInt8 → Option (ByteArray × Int)} (h : Dir w b c m) (hc : c < maxLen) {s : ByteArray} (hs : s.size ≤ maxLen) (d : ByteArray) (a : Int) :
    ∃ w', (Instr.mapUpdate 80 (.map (some b)) (.string s) (contV d a)).run Tryz.prog w = .ok () w' ∧ Dir w' b (if (m s.data.toList).isSome then c else c + 1) (upd m s.data.toList (d, a)) ∧ w.mapTurned w' b := by
  obtain ⟨D, h1, h2, h3⟩ := h
  obtain ⟨w', hrun, hown, ht⟩ := h1.store keyed Tryz.underlying80 hc (keyS hs) (contR_mk d a)
  have hsz : Maps.size (D.put (.string s.data.toList) (contD d a)) = if (m s.data.toList).isSome then c else c + 1 := by
    rw [Maps.size_put (h1.tidy keyed), h2]
    cases hm : m s.data.toList with
    | none => simp [(h3 _).2 hm]
    | some x => simp [((h3 _).1 x hm).1]
  refine ⟨w', hrun, ⟨D.put (.string s.data.toList) (contD d a), ?_, hsz, fun l => ?_⟩, ht⟩
  · obtain ⟨es, clock, e1, e2, e3, e4⟩ := hown
    refine ⟨es, clock, e1, e2, ?_, e4⟩
    rw [← hsz, e4]
    simp [Maps.size, length_sorted]
  · by_cases hl : l = s.data.toList
    · subst hl
      refine ⟨fun x hx => ?_, fun hx => ?_⟩
      · simp [upd] at hx
        subst hx
        exact ⟨Maps.has_put_same h1.isMap (isKeyS _) _, fun z => Maps.atKey_put_same h1.isMap (isKeyS _) _ z⟩
      · simp [upd] at hx
    · have hne : (Lit.string l) ≠ .string s.data.toList := fun e => hl (by simpa using e)
      rw [Maps.has_put_other hne]
      simp only [upd, if_neg hl, Maps.atKey_put_other hne]
      exact h3 l

/-- 'delete(m, k)'. -/
theorem Dir.drop {w : World} {b c : Nat} {m : List UInt8 → Option (ByteArray × Int)} (h : Dir w b c m) {s : ByteArray} (hs : s.size ≤ maxLen) (ty : TypeId) :
    ∃ w', (Builtin.delete_ #[80, 9] ty #[.map (some b), .string s]).run Tryz.prog w = .ok (.tuple #[]) w' ∧ Dir w' b (if (m s.data.toList).isSome then c - 1 else c) (del m s.data.toList) ∧ w.mapTurned w' b := by
  obtain ⟨D, h1, h2, h3⟩ := h
  obtain ⟨w', hrun, hown, ht⟩ := h1.drop keyed Tryz.underlying80 (keyS hs) ty
  have hsz : Maps.size (D.del (.string s.data.toList)) = if (m s.data.toList).isSome then c - 1 else c := by
    have := Maps.size_del (k := .string s.data.toList) (h1.tidy keyed)
    cases hm : m s.data.toList with
    | none => simp [(h3 _).2 hm] at this; simp [this, h2]
    | some x => simp [((h3 _).1 x hm).1] at this; simp; omega
  refine ⟨w', hrun, ⟨D.del (.string s.data.toList), ?_, hsz, fun l => ?_⟩, ht⟩
  · obtain ⟨es, clock, e1, e2, e3, e4⟩ := hown
    refine ⟨es, clock, e1, e2, ?_, e4⟩
    rw [← hsz, e4]
    simp [Maps.size, length_sorted]
  · by_cases hl : l = s.data.toList
    · subst hl
      refine ⟨fun x hx => ?_, fun hx => Maps.has_del_same⟩
      simp [del] at hx
    · have hne : (Lit.string l) ≠ .string s.data.toList := fun e => hl (by simpa using e)
      rw [Maps.has_del_other hne]
      simp only [del, if_neg hl, Maps.atKey_del_other hne]
      exact h3 l

/-- 'len(m)'. -/
theorem Dir.len {w : World} {b c : Nat} {m : List UInt8 → Option (ByteArray × Int)} (h : Dir w b c m) (ty : TypeId) : (Builtin.len_ #[80] ty #[.map (some b)]).run Tryz.prog w = .ok (.int .i64 c) w := by
  obtain ⟨D, h1, h2, h3⟩ := h
  rw [h1.len Tryz.underlying80 ty, h2]

/-- The files' contents by their names: a later one of a name counts. -/
def fm : List Fl → List UInt8 → Option (ByteArray × Int)
  | [] => fun _ => none
  | f :: r => fun l => match fm r l with
    | some x => some x
    | none => if l = f.nm.data.toList then some (f.dt, f.sy) else none

theorem fm_snoc (xs : List Fl) (f : Fl) : fm (xs ++ [f]) = upd (fm xs) f.nm.data.toList (f.dt, f.sy) := by
  funext l
  induction xs with
  | nil => simp [fm, upd]
  | cons g r ih =>
    simp only [List.cons_append, fm, ih]
    unfold upd
    by_cases hl : l = f.nm.data.toList
    · simp [hl]
    · simp only [if_neg hl]

theorem makeMap_hint (n : Int) (w : World) : (Instr.makeMap 80 (some (.int .i64 n))).run Tryz.prog w = .ok (.map (some w.heap.size)) (w.alloc (.map #[] 0)) := by
  simp [Instr.makeMap, run_underlying Tryz.underlying80, asInt, asIntOf, go_sem]

theorem mapTurned_below {w w' : World} {b B : Nat} (h : w.mapTurned w' b) (hB : B ≤ b) : Below B w w' := by
  have hg := h.grown
  exact ⟨hg.os, hg.tape, hg.output, hg.size, fun k hk => hg.block k (by have := hg.size; obtain ⟨es, _, _, _, e, _⟩ := h; by_cases hb : b < w.heap.size; omega; rw [Array.getElem?_eq_none (by omega)] at e; cases e) (by simp; omega)⟩

theorem turned_block {w w' : World} {b k : Nat} (h : w.mapTurned w' b) (hk : k < w.heap.size) (hne : k ≠ b) : w'.heap[k]? = w.heap[k]? := h.grown.block k hk (by simpa using hne)
theorem turned_cell {w w' : World} {b : Nat} (h : w.mapTurned w' b) {p : Addr} (hk : p.block < w.heap.size) (hne : p.block ≠ b) : w'.cell? p = w.cell? p := World.cell?_of_block (turned_block h hk hne)
end Go.Proofs.YtgmfjninimebmaaGreatDoor
namespace Go.Proofs.YtgmfjninimebmaaGreatDoor
open Go.RowKit Go.Maps
set_option linter.unusedVariables false
set_option linter.unusedSimpArgs false

/-- The cells of a directory object: the lock, the map, quota, fuel. -/
abbrev dirC (mb : Nat) (q fu : Int) : Array Value := #[.int .i32 0, .int .u32 0, .int .u32 0, .int .u32 0, .int .i32 0, .int .i32 0, .map (some mb), .int .i64 q, .int .i64 fu]

theorem less_trans {a b c : List UInt8} (h1 : Op.bytesLess a b = true) (h2 : Op.bytesLess b c = true) : Op.bytesLess a c = true := by
  induction a generalizing b c with
  | nil =>
    cases c with
    | nil => cases b <;> simp [Op.bytesLess] at h2
    | cons z c => rfl
  | cons x a ih =>
    cases b with
    | nil => simp [Op.bytesLess] at h1
    | cons y b =>
      cases c with
      | nil => simp [Op.bytesLess] at h2
      | cons z c =>
        simp only [Op.bytesLess, Bool.or_eq_true, Bool.and_eq_true, decide_eq_true_eq, beq_iff_eq] at *
        rcases h1 with h1 | ⟨rfl, h1⟩
        · rcases h2 with h2 | ⟨rfl, h2⟩
          · exact .inl (UInt8.lt_trans h1 h2)
          · exact .inl h1
        · rcases h2 with h2 | ⟨rfl, h2⟩
          · exact .inl h2
          · exact .inr ⟨rfl, ih h1 h2⟩
theorem less_irrefl (a : List UInt8) : Op.bytesLess a a = false := by
  induction a with
  | nil => rfl
  | cons x a ih => simp [Op.bytesLess, ih]

/-- The names rise. -/
def Rise (xs : List Fl) : Prop := ∀ i j, i < j → j < xs.length → lessB (xs.getD i fl0).nm (xs.getD j fl0).nm = true

theorem rise_of_ok {xs : List Fl} (h : ∀ j, j < xs.length → okAt xs j = true) : Rise xs := by
  intro i j hij
  induction j with
  | zero => omega
  | succ j ih =>
    intro hj
    have h1 : lessB (xs.getD j fl0).nm (xs.getD (j + 1) fl0).nm = true := by
      have := h (j + 1) hj
      unfold okAt at this
      simp only [Bool.and_eq_true, Bool.or_eq_true] at this
      rcases this.2 with h0 | h0
      · simp at h0
      · simpa using h0
    by_cases hij' : i = j
    · rw [hij']; exact h1
    · exact less_trans (ih (by omega) (by omega)) h1

theorem Rise.ne {xs : List Fl} (h : Rise xs) {i j : Nat} (hij : i < j) (hj : j < xs.length) : (xs.getD i fl0).nm.data.toList ≠ (xs.getD j fl0).nm.data.toList := by
  intro e
  have := h i j hij hj
  unfold lessB at this
  rw [ByteArray.toList_eq, ByteArray.toList_eq, e, less_irrefl] at this
  cases this

theorem fm_none {xs : List Fl} {l : List UInt8} (h : ∀ i, i < xs.length → (xs.getD i fl0).nm.data.toList ≠ l) : fm xs l = none := by
  induction xs with
  | nil => rfl
  | cons f r ih =>
    have h0 := h 0 (by simp)
    simp only [fm]
    rw [ih (fun i hi => by simpa using h (i + 1) (by simpa using hi))]
    have : ¬ l = f.nm.data.toList := fun e => h0 (by simp [e])
    simp [this]

theorem getD_take (xs : List Fl) {k i : Nat} (hi : i < k) (hk : k ≤ xs.length) : (xs.take k).getD i fl0 = xs.getD i fl0 := by
  simp [List.getD, hi]

theorem Rise.fresh {xs : List Fl} (h : Rise xs) {k : Nat} (hk : k < xs.length) : fm (xs.take k) (xs.getD k fl0).nm.data.toList = none := by
  refine fm_none fun i hi => ?_
  have hi' : i < k := by simp at hi; omega
  rw [getD_take xs hi' (by omega)]
  exact h.ne hi' hk

theorem vld_head {xs : List Fl} {q fu : Int} (h : vldB xs q fu = true) : hdOk xs.length q fu = true ∧ (∀ j, j < xs.length → okAt xs j = true) ∧ datas xs ≤ 1048576 := by
  unfold vldB at h
  simp only [Bool.and_eq_true, decide_eq_true_eq, List.all_eq_true, List.mem_range] at h
  exact ⟨h.1.1, h.1.2, h.2⟩

set_option maxHeartbeats 1000000 in
theorem openDir_bad (a : Option Addr) (cap : Nat) (xs : List Fl) (q fu : Int) (w : World) (hx : Lie w a xs) (hf : Fits xs) (hlen : xs.length ≤ 1048576) (hd : datas xs ≤ 1048576) (hv : vldB xs q fu = false) :
    Calls Tryz.prog 21 #[.agg #[.slice a xs.length cap, .int .i64 q, .int .i64 fu]] w fun e w' => e = .returned (.tuple #[.pointer none, .bool false]) ∧ Below w.heap.size w w' := by
  have hb0 : Below w.heap.size w (w.alloc (.cells #[.slice a xs.length cap, .int .i64 q, .int .i64 fu] 32)) := (Below.refl _ _).alloc (Nat.le_refl _) _
  go_enter Tryz.func21, Tryz.ntmps21
  go_wp2_with fail
  refine (implValid_any a cap xs q fu _ (hx.below hb0) hf hlen hd).mono ?_
  rintro e w1 ⟨rfl, hb1⟩
  rw [hv]
  go_wp2
  go_ret2
  exact ⟨rfl, hb0.trans (hb1.mono hb0.size)⟩

set_option maxHeartbeats 1000000 in
theorem openDir_ok (a : Option Addr) (cap : Nat) (xs : List Fl) (q fu : Int) (w : World) (hx : Lie w a xs) (hf : Fits xs) (hlen : xs.length ≤ 1048576) (hd : datas xs ≤ 1048576) (hv : vldB xs q fu = true) :
    Calls Tryz.prog 21 #[.agg #[.slice a xs.length cap, .int .i64 q, .int .i64 fu]] w fun e w' =>
      ∃ g mb, e = .returned (.tuple #[.pointer (some ⟨g, 0, none⟩), .bool true]) ∧ w.heap.size ≤ mb ∧ w.heap.size ≤ g ∧ g ≠ mb ∧ w'.heap[g]? = some (.cells (dirC mb q fu) 94 (0, 0)) ∧ Dir w' mb xs.length (fm xs) ∧ Below w.heap.size w w' := by
  have hb0 : Below w.heap.size w (w.alloc (.cells #[.slice a xs.length cap, .int .i64 q, .int .i64 fu] 32)) := (Below.refl _ _).alloc (Nat.le_refl _) _
  have hmm := makeMap_hint
  go_enter Tryz.func21, Tryz.ntmps21
  go_wp2_with fail
  refine (implValid_any a cap xs q fu _ (hx.below hb0) hf hlen hd).mono ?_
  rintro e w1 ⟨rfl, hb1⟩
  rw [hv]
  have hbw : Below w.heap.size w w1 := hb0.trans (hb1.mono hb0.size)
  have p0 : w1.cell? ⟨w.heap.size, 0, none⟩ = some (.slice a xs.length cap) := (hb1.cell (p := ⟨w.heap.size, 0, none⟩) (by simp)).trans (by simp)
  have p1 : w1.cell? ⟨w.heap.size, 1, none⟩ = some (.int .i64 q) := (hb1.cell (p := ⟨w.heap.size, 1, none⟩) (by simp)).trans (by simp)
  have p2 : w1.cell? ⟨w.heap.size, 2, none⟩ = some (.int .i64 fu) := (hb1.cell (p := ⟨w.heap.size, 2, none⟩) (by simp)).trans (by simp)
  have hsz : w.heap.size < w1.heap.size := by have := hb1.size; simp at this; omega
  clear hb1 hb0
  go_wp2_with fail
  go_region_held3 (fun w' => w'.cell? ⟨w.heap.size, 0, none⟩ = some (.slice a xs.length cap) ∧ w'.cell? ⟨w.heap.size, 1, none⟩ = some (.int .i64 q) ∧ w'.cell? ⟨w.heap.size, 2, none⟩ = some (.int .i64 fu)) (go_keep) (fail)
  all_goals go_wp2
  all_goals
    have hrise := rise_of_ok (vld_head hv).2.1
    clear hmm hv p0 p1 p2
    go_loopw [23] (fun i wr => ∃ k : Nat, k ≤ xs.length ∧ i = .int .i64 k ∧ Dir wr w1.heap.size k (fm (xs.take k)) ∧ wr.heap[w1.heap.size + 1]? = some (.cells (dirC w1.heap.size q fu) 94 (0, 0)) ∧ Below w1.heap.size w1 wr ∧ w1.heap.size + 1 < wr.heap.size) (fun i _ => xs.length - (intOf i).toNat)
    case atStart =>
      refine ⟨0, Nat.zero_le _, rfl, ?_, ?_, ?_, ?_⟩
      · exact ((Dir.made w1).alloc _).block rfl
      · have := World.heap_alloc_new (w1.alloc (.map #[] 0)) (.cells (dirC w1.heap.size q fu) 94)
        have e : (w1.alloc (.map #[] 0)).heap.size = w1.heap.size + 1 := by simp
        rw [e] at this
        exact this
      · exact (((Below.refl _ _).alloc (Nat.le_refl _) _).alloc (by simp) _).drew
      · simp
    case round =>
      obtain ⟨k, hk, rfl, hdir, hobj, hb, hsz2⟩ := hrel
      by_cases hlt : k < xs.length
      · have hbr := hbw.trans (hb.mono (by omega))
        have hfk := hf.at hlt
        obtain ⟨b, off, rfl, hbl, c0, c1, c2⟩ := (hx.below hbr).at hlt
        have HS : Hid (fm (xs.take (k + 1)) = upd (fm (xs.take k)) (xs.getD k fl0).nm.data.toList ((xs.getD k fl0).dt, (xs.getD k fl0).sy)) := by show _ = _; rw [take_snoc xs k hlt, fm_snoc]
        have HF : Hid (fm (xs.take k) (xs.getD k fl0).nm.data.toList = none) := hrise.fresh hlt
        generalize xs.getD k fl0 = f at *
        have o6 : wr.cell? ⟨w1.heap.size + 1, 6, none⟩ = some (.map (some w1.heap.size)) := by simp [World.cell?, hobj]
        obtain ⟨w2, hrun, hdir2, hturn⟩ := (((hdir.alloc (.cells #[.string f.nm, .string f.dt, .int .i64 f.sy] 66)).block rfl : Dir ((wr.alloc (.cells #[.string f.nm, .string f.dt, .int .i64 f.sy] 66)).drew) w1.heap.size k (fm (xs.take k)))).store (by unfold maxLen; omega) hfk.1 f.dt f.sy
        rw [HF.out] at hdir2
        have r0 : w2.cell? ⟨w1.heap.size + 1, 6, none⟩ = some (.map (some w1.heap.size)) := (turned_cell hturn (p := ⟨w1.heap.size + 1, 6, none⟩) (by simp; omega) (by simp)).trans ((World.cell?_alloc_lt wr _ ⟨w1.heap.size + 1, 6, none⟩ hsz2).trans o6)
        have r1 : w2.cell? ⟨wr.heap.size, 0, none⟩ = some (.string f.nm) := (turned_cell hturn (p := ⟨wr.heap.size, 0, none⟩) (by simp) (by simp; omega)).trans (by simp)
        have r2 : w2.cell? ⟨wr.heap.size, 1, none⟩ = some (.string f.dt) := (turned_cell hturn (p := ⟨wr.heap.size, 1, none⟩) (by simp) (by simp; omega)).trans (by simp)
        have r3 : w2.cell? ⟨wr.heap.size, 2, none⟩ = some (.int .i64 f.sy) := (turned_cell hturn (p := ⟨wr.heap.size, 2, none⟩) (by simp) (by simp; omega)).trans (by simp)
        have hobj2 : w2.heap[w1.heap.size + 1]? = some (.cells (dirC w1.heap.size q fu) 94 (0, 0)) := (turned_block hturn (by simp; omega) (by simp)).trans ((Below.heap_alloc wr _ _ hsz2).trans hobj)
        have hb2 : Below w1.heap.size w1 w2 := ((hb.alloc (by omega) _).drew).trans (mapTurned_below hturn (Nat.le_refl _))
        have hs2 : w1.heap.size + 1 < w2.heap.size := by have := hturn.grown.size; simp at this; omega
        go_wp2_with fail
        go_region_held3 (fun w' => w'.cell? ⟨w1.heap.size + 1, 6, none⟩ = some (.map (some w1.heap.size)) ∧ w'.cell? ⟨wr.heap.size, 0, none⟩ = some (.string f.nm) ∧ w'.cell? ⟨wr.heap.size, 1, none⟩ = some (.string f.dt) ∧ w'.cell? ⟨wr.heap.size, 2, none⟩ = some (.int .i64 f.sy)) (go_keep) (fail)
        all_goals go_wp2
        all_goals exact ⟨⟨k + 1, by omega, by go_num, by rw [HS.out]; exact hdir2, hobj2, hb2, hs2⟩, by simp [intOf]; omega⟩
      · obtain rfl : k = xs.length := by omega
        rw [List.take_length] at hdir
        go_wp2
        go_ret2
        exact ⟨_, _, rfl, by omega, by omega, by omega, hobj, hdir, hbw.trans (hb.mono (by omega))⟩
end Go.Proofs.YtgmfjninimebmaaGreatDoor
