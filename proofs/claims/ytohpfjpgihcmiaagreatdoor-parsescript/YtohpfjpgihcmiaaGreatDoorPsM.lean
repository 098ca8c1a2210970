import Derived.Test.YtohpfjpgihcmiaaGreatDoorPsL

namespace Go.Proofs.YtohpfjpgihcmiaaGreatDoor
open Go.RowKit Go.Maps
set_option linter.unusedVariables false
set_option linter.unusedSimpArgs false

/-- An operation with the slices of its rows. -/
structure OpW where
  o : OpV
  ba : Value
  bk : Value
def op6 (x : OpW) : List Value := [.int .i64 x.o.kd, .string x.o.ky, .string x.o.vl, .int .i64 x.o.n, x.ba, x.bk]
def cellsO (xs : List OpW) : List Value := xs.flatMap op6
theorem cellsO_snoc (xs : List OpW) (x : OpW) : cellsO (xs ++ [x]) = cellsO xs ++ op6 x := by simp [cellsO]
theorem cellsO_len (xs : List OpW) : (cellsO xs).length = xs.length * 6 := by
  induction xs with
  | nil => rfl
  | cons x r ih => simp [cellsO, op6] at *; omega
def ow0 : OpW := ⟨⟨0, ⟨#[]⟩, ⟨#[]⟩, 0, [], []⟩, .slice none 0 0, .slice none 0 0⟩
theorem cellsO_at (xs : List OpW) (i j : Nat) (hi : i < xs.length) (hj : j < 6) : (cellsO xs)[i * 6 + j]? = (op6 (xs.getD i ow0))[j]? := by
  induction xs generalizing i with
  | nil => simp at hi
  | cons x r ih =>
    have e : cellsO (x :: r) = op6 x ++ cellsO r := rfl
    cases i with
    | zero => rw [e, Nat.zero_mul, Nat.zero_add, List.getElem?_append_left (by simpa [op6] using hj)]; rfl
    | succ i =>
      rw [e, List.getElem?_append_right (by simp [op6]; omega)]
      have e2 : (i + 1) * 6 + j - (op6 x).length = i * 6 + j := by simp [op6]; omega
      rw [e2, ih i (by simpa using hi)]
      rfl
/-- A row of operations that the call owns, and their own rows. -/
structure ScR (w : World) (B : Nat) (v : Value) (os : List OpW) : Prop where
  row : w.ownsRow B 38 6 v os.length (cellsO os)
  rows : ∀ x ∈ os, RowsO w B x.ba x.bk x.o
  dis : os.Pairwise fun x y => ∀ g, (x.ba.ownBlock = some g → y.ba.ownBlock ≠ some g) ∧ (x.bk.ownBlock = some g → y.bk.ownBlock ≠ some g)
/-- The rows of these operations lie below N. -/
def Fresh (N : Nat) (os : List OpW) : Prop := ∀ x ∈ os, ∀ g, (x.ba.ownBlock = some g → g < N) ∧ (x.bk.ownBlock = some g → g < N)
theorem ScR.nil (w : World) (B : Nat) : ScR w B (.slice none 0 0) [] := ⟨ownsNil _ _ _ _, fun x hx => by simp at hx, List.Pairwise.nil⟩
theorem ScR.below {w w' : World} {B : Nat} {v : Value} {os : List OpW} (h : ScR w B v os) (hb : Below w.heap.size w w') : ScR w' B v os := ⟨owns_below h.row hb, fun x hx => (h.rows x hx).below hb, h.dis⟩
theorem ScR.set {w : World} {B q n : Nat} {u v : Value} {os : List OpW} (h : ScR w B v os) (hq : q < B) : ScR (w.setCell ⟨q, n, none⟩ u) B v os := ⟨owns_set h.row hq, fun x hx => (h.rows x hx).set hq, h.dis⟩
theorem ScR.down {w : World} {B B' : Nat} {v : Value} {os : List OpW} (h : ScR w B v os) (hB : B' ≤ B) : ScR w B' v os := ⟨rowLenD rfl hB h.row, fun x hx => (h.rows x hx).down hB, h.dis⟩
theorem ScR.fresh {w : World} {B : Nat} {v : Value} {os : List OpW} (h : ScR w B v os) : Fresh w.heap.size os := fun x hx g => ⟨fun e => owns_ltD (h.rows x hx).1 g e, fun e => owns_ltD (h.rows x hx).2 g e⟩
theorem owns_neD {w : World} {B B' n n' z z' : Nat} {t t' : TypeId} {v v' : Value} {xs xs' : List Value} (h : w.ownsRow B t z v n xs) (h' : w.ownsRow B' t' z' v' n' xs') (ht : t ≠ t') : ∀ g, v.ownBlock = some g → v'.ownBlock ≠ some g := by
  intro g hg hg'
  rcases h.2 with ⟨rfl, _⟩ | ⟨b, cap, cur, rfl, _, hb, _⟩
  · cases hg
  · rcases h'.2 with ⟨rfl, _⟩ | ⟨b', cap', cur', rfl, _, hb', _⟩
    · cases hg'
    · simp [Value.ownBlock] at hg hg'
      subst hg hg'
      rw [hb] at hb'
      simp at hb'
      exact ht hb'.2
theorem grow_row {w w8 : World} {B B' n n' z z' : Nat} {t t' : TypeId} {v v' : Value} {xs xs' : List Value} {o : Obj} (h : w.ownsRow B t z v n xs) (h' : w.ownsRow B' t' z' v' n' xs') (ht : t ≠ t') (hg : (w.alloc o).grownBy w8 v'.ownBlock) : w8.ownsRow B t z v n xs :=
  owns_blocks h (fun g hgg => (hg.block g (by rw [size_alloc]; have := owns_ltD h g hgg; omega) (fun e => owns_neD h h' ht g hgg e.symm)).trans (heap_alloc_oldH w o g (owns_ltD h g hgg)))
/-- One operation more. -/
theorem ScR.grow {w w8 : World} {B : Nat} {v v8 : Value} {os : List OpW} {x : OpW} {o : Obj} {N : Nat} (h : ScR w B v os) (hN : B ≤ N) (hx : RowsO w N x.ba x.bk x.o) (hf : Fresh N os) (hg : (w.alloc o).grownBy w8 v.ownBlock) (hw : w8.ownsRow B 38 6 v8 (os.length + 1) (cellsO os ++ op6 x)) : ScR w8 B v8 (os ++ [x]) := by
  have hrow : ∀ y : OpW, RowsO w B y.ba y.bk y.o → RowsO w8 B y.ba y.bk y.o := fun y hy => ⟨grow_row hy.1 h.row (by decide) hg, grow_row hy.2 h.row (by decide) hg⟩
  refine ⟨by rw [cellsO_snoc, List.length_append]; exact hw, fun y hy => ?_, ?_⟩
  rotate_left
  · refine List.pairwise_append.2 ⟨h.dis, List.pairwise_singleton _ _, fun y hy z hz g => ?_⟩
    have hzx : z = x := by simpa using hz
    subst hzx
    exact ⟨fun e1 e2 => Nat.lt_irrefl _ (Nat.lt_of_lt_of_le ((hf y hy g).1 e1) (owns_base hx.1 g e2)), fun e1 e2 => Nat.lt_irrefl _ (Nat.lt_of_lt_of_le ((hf y hy g).2 e1) (owns_base hx.2 g e2))⟩
  rcases List.mem_append.1 hy with hy | hy
  · exact hrow y (h.rows y hy)
  · have : y = x := by simpa using hy
    subst this
    exact hrow y (hx.down hN)
theorem iOp_info : (Tryz.prog.info? 38).map (fun i => (i.zero, i.size, i.bytes)) = some (some (.agg #[.int .i64 0, .string ByteArray.empty, .string ByteArray.empty, .int .i64 0, .slice none 0 0, .slice none 0 0]), 6, 96) := by kernel_rfl
theorem cell_first6 (w : World) (x y z u a b : Value) (t : TypeId) : ∀ j v, [x, y, z, u, a, b][j]? = some v → (w.alloc (.cells #[x, y, z, u, a, b] t)).cell? ((⟨w.heap.size, 0, none⟩ : Addr).add j) = some v := by
  intro j v hj
  rw [Go.WideShapes.add_plain]
  have hb : (w.alloc (.cells #[x, y, z, u, a, b] t)).heap[w.heap.size]? = some (.cells #[x, y, z, u, a, b] t (0, 0)) := World.heap_alloc_new _ _
  simp only [World.cell?, hb]
  match j, hj with
  | 0, hj => simpa using hj
  | 1, hj => simpa using hj
  | 2, hj => simpa using hj
  | 3, hj => simpa using hj
  | 4, hj => simpa using hj
  | 5, hj => simpa using hj
/-- The further lines: their operations, or the number of the first that is wrong. -/
def opsM (k : Nat) : List ByteArray → Except Nat (List OpV)
  | [] => .ok []
  | x :: r => if k = 2000 then .error k else match opM x with
    | none => .error k
    | some o => match opsM (k + 1) r with
      | .ok os => .ok (o :: os)
      | .error e => .error e
theorem opsM_app (pre : List ByteArray) (os : List OpV) (j : Nat) (r : List ByteArray) (h : pre.mapM opM = some os) (hj : j + pre.length ≤ 2000) : opsM j (pre ++ r) = match opsM (j + pre.length) r with
    | .ok qs => .ok (os ++ qs)
    | .error e => .error e := by
  induction pre generalizing j os with
  | nil => cases h; simp; cases opsM j r <;> rfl
  | cons x p ih =>
    rw [List.mapM_cons] at h
    cases hx : opM x with
    | none => rw [hx] at h; cases h
    | some o =>
      cases hp : p.mapM opM with
      | none => rw [hx, hp] at h; cases h
      | some us =>
        rw [hx, hp] at h
        cases h
        simp only [List.length_cons] at hj ⊢
        have e : j + (p.length + 1) = j + 1 + p.length := by omega
        rw [List.cons_append, opsM, if_neg (by omega), hx, e]
        simp only
        rw [ih us (j + 1) hp (by omega)]
        cases opsM (j + 1 + p.length) r <;> rfl
/-- What a script is: the quota, the operations, the code. -/
def psV (s : ByteArray) : Int × List OpV × Int := if 60000 < s.size then (0, [], 1) else match lnB s with
  | [] => (0, [], 2)
  | l :: ls => match quotaM l with
    | none => (0, [], 2)
    | some q => match opsM 0 ls with
      | .ok os => (q, os, 0)
      | .error j => (0, [], 3 + (j : Int))
end Go.Proofs.YtohpfjpgihcmiaaGreatDoor
