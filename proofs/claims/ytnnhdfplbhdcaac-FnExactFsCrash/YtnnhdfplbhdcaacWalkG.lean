
import Derived.Test.YtnnhdfplbhdcaacWalkE
import Derived.Maps.OwnSet
import Derived.Maps.OwnOps
import Derived.Maps.Ext
namespace Go.Proofs.Ytnnhdfplbhdcaac
open Go.RowKit Go.Maps
set_option linter.unusedVariables false
set_option linter.unusedSimpArgs false

/-! What a directory's map holds. -/
/-- A content as a value, and as it reads. -/
abbrev contV (d : ByteArray) (a : Int) : Value := .agg #[.string d, .int .i64 a]
abbrev contD (d : ByteArray) (a : Int) : DataW Unit := .agg [.lit (.string d.data.toList), .lit (.int .i64 a)]
def contR : Value → Option (DataW Unit × List MemPlace)
  | .agg cs => match cs.toList with
    | [.string d, .int .i64 a] => some (contD d a, [])
    | _ => none
  | _ => none
theorem contR_mk (d : ByteArray) (a : Int) : contR (contV d a) = some (contD d a, []) := rfl
theorem contR_inv {v : Value} {z : DataW Unit} {ps : List MemPlace} (h : contR v = some (z, ps)) : ∃ d a, v = contV d a ∧ z = contD d a := by
  unfold contR at h
  split at h
  · rename_i cs
    split at h
    · rename_i d a e
      simp only [Option.some.injEq, Prod.mk.injEq] at h
      refine ⟨d, a, ?_, h.1.symm⟩
      have : cs = #[.string d, .int .i64 a] := by rw [← Array.toArray_toList (xs := cs), e]
      rw [this]
    · cases h
  · cases h
theorem contD_inj {d d' : ByteArray} {a a' : Int} (h : contD d a = contD d' a') : d = d' ∧ a = a' := by
  simp only [contD, DataW.agg.injEq, List.cons.injEq, DataW.lit.injEq, Lit.string.injEq, Lit.int.injEq, true_and, and_true] at h
  exact ⟨ByteArray.ext (Array.toList_inj.1 h.1), h.2⟩

theorem keyed : Keyed Try.prog 9 := string_keyed Try.underlying9
theorem keyS {s : ByteArray} (h : s.size ≤ maxLen) : keyOf Try.prog 9 (.string s) = some (.string s.data.toList) := Go.WideMaps.keyOf_string_mk Try.underlying9 h

/-- Block b is a map of c contents, and m says which. -/
def Dir (w : World) (b c : Nat) (m : List UInt8 → Option (ByteArray × Int)) : Prop :=
  ∃ D : DataW Unit, w.ownsMap Try.prog 9 contR b c D ∧ Maps.size D = c ∧
    ∀ l, (∀ x, m l = some x → Maps.has D (.string l) = true ∧ ∀ z, D.atKey (.string l) z = contD x.1 x.2) ∧ (m l = none → Maps.has D (.string l) = false)

/-- m with one content laid at k. -/
def upd (m : List UInt8 → Option (ByteArray × Int)) (k : List UInt8) (x : ByteArray × Int) : List UInt8 → Option (ByteArray × Int) := fun l => if l = k then some x else m l
/-- m without k. -/
def del (m : List UInt8 → Option (ByteArray × Int)) (k : List UInt8) : List UInt8 → Option (ByteArray × Int) := fun l => if l = k then none else m l

theorem Dir.alloc {w : World} {b c : Nat} {m : List UInt8 → Option (ByteArray × Int)} (h : Dir w b c m) (o : Obj) : Dir (w.alloc o) b c m := by
  obtain ⟨D, h1, h2, h3⟩ := h
  exact ⟨D, h1.alloc o, h2, h3⟩
theorem Dir.lt {w : World} {b c : Nat} {m : List UInt8 → Option (ByteArray × Int)} (h : Dir w b c m) : b < w.heap.size := by
  obtain ⟨D, h1, _⟩ := h
  exact h1.lt
theorem Dir.block {w w' : World} {b c : Nat} {m : List UInt8 → Option (ByteArray × Int)} (h : Dir w b c m) (hb : w'.heap[b]? = w.heap[b]?) : Dir w' b c m := by
  obtain ⟨D, ⟨es, clock, e1, e2⟩, h2, h3⟩ := h
  exact ⟨D, ⟨es, clock, hb.trans e1, e2⟩, h2, h3⟩
theorem Dir.below {w w' : World} {B b c : Nat} {m : List UInt8 → Option (ByteArray × Int)} (h : Dir w b c m) (hb : Below B w w') (hB : b < B) : Dir w' b c m := h.block (hb.block b hB)
theorem Dir.setCell {w : World} {b c : Nat} {m : List UInt8 → Option (ByteArray × Int)} (h : Dir w b c m) {a : Addr} {v : Value} (ha : b ≠ a.block) : Dir (w.setCell a v) b c m := h.block (Below.heap_setCell _ _ _ _ ha)

theorem Dir.made (w : World) : Dir (w.alloc (.map #[] 0)) w.heap.size 0 (fun _ => none) :=
  ⟨.map [], World.ownsMap_made w Try.prog 9 contR, rfl, fun l => ⟨fun x h => absurd h (by simp), fun _ => rfl⟩⟩

/-- 'v, ok := m[k]'. -/
theorem Dir.look {w : World} {b c : Nat} {m : List UInt8 → Option (ByteArray × Int)} (h : Dir w b c m) {s : ByteArray} (hs : s.size ≤ maxLen) :
    (Instr.lookup 56 (.map (some b)) (.string s) true).run Try.prog w = .ok (.tuple #[contV ((m s.data.toList).getD (ByteArray.empty, 0)).1 ((m s.data.toList).getD (ByteArray.empty, 0)).2, .bool (m s.data.toList).isSome]) w := by
  obtain ⟨D, h1, h2, h3⟩ := h
  obtain ⟨v, ps, hrun, hv⟩ := h1.look_ok keyed Try.underlying56 (z := contV ByteArray.empty 0) (Try.zeroValue72 w) (contR_mk _ _) (keyS hs)
  rw [hrun]
  obtain ⟨h4, h5⟩ := h3 s.data.toList
  cases hm : m s.data.toList with
  | none =>
    rw [Maps.atKey_of_not_has (h5 hm)] at hv
    obtain ⟨d, a, rfl, e⟩ := contR_inv hv
    obtain ⟨rfl, rfl⟩ := contD_inj e
    rw [h5 hm]
    rfl
  | some x =>
    obtain ⟨h6, h7⟩ := h4 x hm
    rw [h7] at hv
    obtain ⟨d, a, rfl, e⟩ := contR_inv hv
    obtain ⟨e1, e2⟩ := contD_inj e
    rw [h6]
    simp [e1, e2]

theorem isKeyS (l : List UInt8) : WideAt.IsKeyLit (.string l) := by trivial

/-- 'm[k] = v'. -/
theorem Dir.store {w : World} {b c : Nat} {m : List UInt8 → Option (ByteArray × Int)} (h : Dir w b c m) (hc : c < maxLen) {s : ByteArray} (hs : s.size ≤ maxLen) (d : ByteArray) (a : Int) :
    ∃ w', (Instr.mapUpdate 56 (.map (some b)) (.string s) (contV d a)).run Try.prog w = .ok () w' ∧ Dir w' b (if (m s.data.toList).isSome then c else c + 1) (upd m s.data.toList (d, a)) ∧ w.mapTurned w' b := by
  obtain ⟨D, h1, h2, h3⟩ := h
  obtain ⟨w', hrun, hown, ht⟩ := h1.store keyed Try.underlying56 hc (keyS hs) (contR_mk d a)
  have hsz : Maps.size (D.put (.string s.data.toList) (contD d a)) = if (m s.data.toList).isSome then c else c + 1 := by
    rw [Maps.size_put (h1.tidy keyed), h2]
    cases hm : m s.data.toList with
    | none => simp [(h3 _).2 hm]
    | some x => simp [((h3 _).1 x hm).1]
  refine ⟨w', hrun, ⟨D.put (.string s.data.toList) (contD d a), ?_, hsz, fun l => ?_⟩, ht⟩
  · obtain ⟨es, clock, e1, e2, e3, e4⟩ := hown
    refine ⟨es, clock, e1, e2, ?_, e4⟩
    rw [← hsz, e4]
    simp [Maps.size, length_sorted]
  · by_cases hl : l = s.data.toList
    · subst hl
      refine ⟨fun x hx => ?_, fun hx => ?_⟩
      · simp [upd] at hx
        subst hx
        exact ⟨Maps.has_put_same h1.isMap (isKeyS _) _, fun z => Maps.atKey_put_same h1.isMap (isKeyS _) _ z⟩
      · simp [upd] at hx
    · have hne : (Lit.string l) ≠ .string s.data.toList := fun e => hl (by simpa using e)
      rw [Maps.has_put_other hne]
      simp only [upd, if_neg hl, Maps.atKey_put_other hne]
      exact h3 l

/-- 'delete(m, k)'. -/
theorem Dir.drop {w : World} {b c : Nat} {m : List UInt8 → Option (ByteArray × Int)} (h : Dir w b c m) {s : ByteArray} (hs : s.size ≤ maxLen) (ty : TypeId) :
    ∃ w', (Builtin.delete_ #[56, 9] ty #[.map (some b), .string s]).run Try.prog w = .ok (.tuple #[]) w' ∧ Dir w' b (if (m s.data.toList).isSome then c - 1 else c) (del m s.data.toList) ∧ w.mapTurned w' b := by
  obtain ⟨D, h1, h2, h3⟩ := h
  obtain ⟨w', hrun, hown, ht⟩ := h1.drop keyed Try.underlying56 (keyS hs) ty
  have hsz : Maps.size (D.del (.string s.data.toList)) = if (m s.data.toList).isSome then c - 1 else c := by
    have := Maps.size_del (k := .string s.data.toList) (h1.tidy keyed)
    cases hm : m s.data.toList with
    | none => simp [(h3 _).2 hm] at this; simp [this, h2]
    | some x => simp [((h3 _).1 x hm).1] at this; simp; omega
  refine ⟨w', hrun, ⟨D.del (.string s.data.toList), ?_, hsz, fun l => ?_⟩, ht⟩
  · obtain ⟨es, clock, e1, e2, e3, e4⟩ := hown
    refine ⟨es, clock, e1, e2, ?_, e4⟩
    rw [← hsz, e4]
    simp [Maps.size, length_sorted]
  · by_cases hl : l = s.data.toList
    · subst hl
      refine ⟨fun x hx => ?_, fun hx => Maps.has_del_same⟩
      simp [del] at hx
    · have hne : (Lit.string l) ≠ .string s.data.toList := fun e => hl (by simpa using e)
      rw [Maps.has_del_other hne]
      simp only [del, if_neg hl, Maps.atKey_del_other hne]
      exact h3 l

/-- 'len(m)'. -/
theorem Dir.len {w : World} {b c : Nat} {m : List UInt8 → Option (ByteArray × Int)} (h : Dir w b c m) (ty : TypeId) : (Builtin.len_ #[56] ty #[.map (some b)]).run Try.prog w = .ok (.int .i64 c) w := by
  obtain ⟨D, h1, h2, h3⟩ := h
  rw [h1.len Try.underlying56 ty, h2]

/-- The files' contents by their names: a later one of a name counts. -/
def fm : List Fl → List UInt8 → Option (ByteArray × Int)
  | [] => fun _ => none
  | f :: r => fun l => match fm r l with
    | some x => some x
    | none => if l = f.nm.data.toList then some (f.dt, f.sy) else none

theorem fm_snoc (xs : List Fl) (f : Fl) : fm (xs ++ [f]) = upd (fm xs) f.nm.data.toList (f.dt, f.sy) := by
  funext l
  induction xs with
  | nil => simp [fm, upd]
  | cons g r ih =>
    simp only [List.cons_append, fm, ih]
    unfold upd
    by_cases hl : l = f.nm.data.toList
    · simp [hl]
    · simp only [if_neg hl]

theorem makeMap_hint (n : Int) (w : World) : (Instr.makeMap 56 (some (.int .i64 n))).run Try.prog w = .ok (.map (some w.heap.size)) (w.alloc (.map #[] 0)) := by
  simp [Instr.makeMap, run_underlying Try.underlying56, asInt, asIntOf, go_sem]

theorem mapTurned_below {w w' : World} {b B : Nat} (h : w.mapTurned w' b) (hB : B ≤ b) : Below B w w' := by
  have hg := h.grown
  exact ⟨hg.os, hg.tape, hg.output, hg.size, fun k hk => hg.block k (by have := hg.size; obtain ⟨es, _, _, _, e, _⟩ := h; by_cases hb : b < w.heap.size; omega; rw [Array.getElem?_eq_none (by omega)] at e; cases e) (by simp; omega)⟩

theorem turned_block {w w' : World} {b k : Nat} (h : w.mapTurned w' b) (hk : k < w.heap.size) (hne : k ≠ b) : w'.heap[k]? = w.heap[k]? := h.grown.block k hk (by simpa using hne)
theorem turned_cell {w w' : World} {b : Nat} (h : w.mapTurned w' b) {p : Addr} (hk : p.block < w.heap.size) (hne : p.block ≠ b) : w'.cell? p = w.cell? p := World.cell?_of_block (turned_block h hk hne)
end Go.Proofs.Ytnnhdfplbhdcaac
