import Derived.Test.YtohpfjpgihcmiaaGreatDoorPsI

namespace Go.Proofs.YtohpfjpgihcmiaaGreatDoor
open Go.RowKit Go.Maps
set_option linter.unusedVariables false
set_option linter.unusedSimpArgs false

/-- An operation. -/
structure OpV where
  kd : Int
  ky : ByteArray
  vl : ByteArray
  n : Int
  bt : List En
  kp : List Int
/-- What follows the first word: 0 nothing, 1 a word, 2 two words, 3 a number, 4 word number word, 5 numbers, 6 items. -/
def kS : List Nat := [0, 2, 1, 6, 0, 1, 2, 0, 3, 0, 5, 3, 4, 0, 0, 0, 0]
def nuM (x : ByteArray) : Option Int := numM x.data.toList
/-- The operation that the parts behind the first word make. -/
def opR (s : Nat) (k : Int) (r : List ByteArray) : Option OpV := match s, r with
  | 0, [] => some ⟨k, ⟨#[]⟩, ⟨#[]⟩, 0, [], []⟩
  | 1, [x] => (woO x).map fun a => ⟨k, a, ⟨#[]⟩, 0, [], []⟩
  | 2, [x, y] => (woO x).bind fun a => (woO y).map fun b => ⟨k, a, b, 0, [], []⟩
  | 3, [x] => (nuM x).map fun n => ⟨k, ⟨#[]⟩, ⟨#[]⟩, n, [], []⟩
  | 4, [x, y, z] => (woO x).bind fun a => (nuM y).bind fun n => (woO z).map fun b => ⟨k, a, b, n, [], []⟩
  | 5, r => (r.mapM nuM).map fun ks => ⟨k, ⟨#[]⟩, ⟨#[]⟩, 0, [], ks⟩
  | 6, x :: r => ((x :: r).mapM itO).map fun bs => ⟨k, ⟨#[]⟩, ⟨#[]⟩, 0, bs, []⟩
  | _, _ => none
def opM (s : ByteArray) : Option OpV := if kI (hd0 (cutB 32 s)) < 17 then opR (kS.getD (kI (hd0 (cutB 32 s))) 0) ((kI (hd0 (cutB 32 s)) : Int) + 1) (cutB 32 s).tail else none
theorem woO_nil : woO (⟨#[]⟩ : ByteArray) = none := by unfold woO; simp; rfl
theorem nuM_nil : nuM (⟨#[]⟩ : ByteArray) = none := by unfold nuM numM; rfl
theorem itO_nil : itO (⟨#[]⟩ : ByteArray) = none := by unfold itO; rw [woO_nil]
theorem mapM_any {α β : Type} (f : α → Option β) (xs : List α) : (xs.mapM f).isSome = !(xs.any fun x => (f x).isNone) := by
  induction xs with
  | nil => rfl
  | cons x r ih =>
    rw [List.mapM_cons, List.any_cons]
    cases hx : f x with
    | none => rfl
    | some v =>
      cases hr : r.mapM f with
      | none => rw [hr] at ih; simpa using ih
      | some vs => rw [hr] at ih; simpa using ih
theorem mapM_map {α β : Type} (f : α → Option β) (g : α → β) (hg : ∀ x v, f x = some v → g x = v) (xs : List α) : ∀ vs, xs.mapM f = some vs → xs.map g = vs := by
  induction xs with
  | nil => intro vs h; cases h; rfl
  | cons x r ih =>
    intro vs h
    rw [List.mapM_cons] at h
    cases hx : f x with
    | none => rw [hx] at h; cases h
    | some v =>
      cases hr : r.mapM f with
      | none => rw [hx, hr] at h; cases h
      | some us =>
        rw [hx, hr] at h
        cases h
        rw [List.map_cons, hg x v hx, ih us hr]
theorem kFS (i : Nat) (hi : i < 17) : (kF.getD i 0 = 30 ∧ kS.getD i 0 = 0) ∨ (kF.getD i 0 = 32 ∧ kS.getD i 0 = 1) ∨ (kF.getD i 0 = 31 ∧ kS.getD i 0 = 2) ∨ (kF.getD i 0 = 34 ∧ kS.getD i 0 = 3) ∨ (kF.getD i 0 = 36 ∧ kS.getD i 0 = 4) ∨ (kF.getD i 0 = 35 ∧ kS.getD i 0 = 5) ∨ (kF.getD i 0 = 33 ∧ kS.getD i 0 = 6) :=
  (by decide : ∀ i : Fin 17, (kF.getD i 0 = 30 ∧ kS.getD i 0 = 0) ∨ (kF.getD i 0 = 32 ∧ kS.getD i 0 = 1) ∨ (kF.getD i 0 = 31 ∧ kS.getD i 0 = 2) ∨ (kF.getD i 0 = 34 ∧ kS.getD i 0 = 3) ∨ (kF.getD i 0 = 36 ∧ kS.getD i 0 = 4) ∨ (kF.getD i 0 = 35 ∧ kS.getD i 0 = 5) ∨ (kF.getD i 0 = 33 ∧ kS.getD i 0 = 6)) ⟨i, hi⟩
/-- The rows of an operation. -/
def RowsO (w : World) (B : Nat) (ba bk : Value) (o : OpV) : Prop := w.ownsRow B 51 4 ba o.bt.length (cellsE o.bt) ∧ w.ownsRow B 3 1 bk o.kp.length (ic o.kp)
/-- What a reader leaves. -/
def RdP (w w' : World) (p b : Nat) (k : Int) (res : Option OpV) : Prop := ∃ (o : OpV) (r' : List ByteArray) (fl' : Bool) (ba bk : Value), Pt w' p r' fl' ∧ OpC w' b k o.ky o.vl o.n ba bk ∧ o.kd = k ∧ Below p w w' ∧ RowsO w' w.heap.size ba bk o ∧ r'.length ≤ 1048577 ∧ (!fl' && r'.isEmpty) = res.isSome ∧ ∀ v, res = some v → o = v
theorem rowsNil (w : World) (B : Nat) (k : Int) (a b : ByteArray) (n : Int) : RowsO w B (.slice none 0 0) (.slice none 0 0) ⟨k, a, b, n, [], []⟩ := ⟨ownsNil _ _ _ _, ownsNil _ _ _ _⟩
theorem rd0 {w : World} {p b : Nat} {k : Int} {r : List ByteArray} (h : Pt w p r false) (hl : r.length ≤ 1048577) (hO : OpC w b k ⟨#[]⟩ ⟨#[]⟩ 0 (.slice none 0 0) (.slice none 0 0)) : RdP w w p b k (opR 0 k r) := by
  refine ⟨⟨k, ⟨#[]⟩, ⟨#[]⟩, 0, [], []⟩, r, false, _, _, h, hO, rfl, Below.refl _ _, rowsNil _ _ _ _ _ _, hl, ?_, ?_⟩
  · cases r <;> rfl
  · intro v hv
    cases r with
    | nil => cases hv; rfl
    | cons x r => cases hv
theorem rd1 {w w' : World} {p b : Nat} {k : Int} {r : List ByteArray} (hl : r.length ≤ 1048577) (h : Pt w' p r.tail (false || (woO (hd0 r)).isNone)) (hO : OpC w' b k (woV (hd0 r)) ⟨#[]⟩ 0 (.slice none 0 0) (.slice none 0 0)) (hB : Below p w w') : RdP w w' p b k (opR 1 k r) := by
  refine ⟨⟨k, woV (hd0 r), ⟨#[]⟩, 0, [], []⟩, _, _, _, _, h, hO, rfl, hB, rowsNil _ _ _ _ _ _, len_tail hl, ?_, ?_⟩
  · match r with
    | [] => have := woO_nil; simp [opR, hd0]; exact this
    | [x] => cases hx : woO x <;> simp [opR, hd0, hx]
    | x :: y :: r => simp [opR]
  · intro v hv
    match r, hv with
    | [x], hv =>
      cases hx : woO x with
      | none => simp [opR, hx] at hv
      | some a => simp [opR, hx] at hv; rw [← hv]; simp [hd0, woO_V hx]
theorem rd2 {w w' : World} {p b : Nat} {k : Int} {r : List ByteArray} (hl : r.length ≤ 1048577) (h : Pt w' p r.tail.tail ((false || (woO (hd0 r)).isNone) || (woO (hd0 r.tail)).isNone)) (hO : OpC w' b k (woV (hd0 r)) (woV (hd0 r.tail)) 0 (.slice none 0 0) (.slice none 0 0)) (hB : Below p w w') : RdP w w' p b k (opR 2 k r) := by
  refine ⟨⟨k, woV (hd0 r), woV (hd0 r.tail), 0, [], []⟩, _, _, _, _, h, hO, rfl, hB, rowsNil _ _ _ _ _ _, len_tail (len_tail hl), ?_, ?_⟩
  · match r with
    | [] => have := woO_nil; simp [opR, hd0]; exact this
    | [x] => have := woO_nil; simp [opR, hd0]; exact fun _ => this
    | [x, y] => cases hx : woO x <;> cases hy : woO y <;> simp [opR, hd0, hx, hy]
    | x :: y :: z :: r => simp [opR]
  · intro v hv
    match r, hv with
    | [x, y], hv =>
      cases hx : woO x with
      | none => simp [opR, hx] at hv
      | some a =>
        cases hy : woO y with
        | none => simp [opR, hx, hy] at hv
        | some b => simp [opR, hx, hy] at hv; rw [← hv]; simp [hd0, woO_V hx, woO_V hy]
theorem rd3 {w w' : World} {p b : Nat} {k : Int} {r : List ByteArray} (hl : r.length ≤ 1048577) (h : Pt w' p r.tail (false || (numM (hd0 r).data.toList).isNone)) (hO : OpC w' b k ⟨#[]⟩ ⟨#[]⟩ (nuV (hd0 r)) (.slice none 0 0) (.slice none 0 0)) (hB : Below p w w') : RdP w w' p b k (opR 3 k r) := by
  change Pt w' p r.tail (false || (nuM (hd0 r)).isNone) at h
  refine ⟨⟨k, ⟨#[]⟩, ⟨#[]⟩, nuV (hd0 r), [], []⟩, _, _, _, _, h, hO, rfl, hB, rowsNil _ _ _ _ _ _, len_tail hl, ?_, ?_⟩
  · match r with
    | [] => have := nuM_nil; simp [opR, hd0]; exact this
    | [x] => cases hx : nuM x <;> simp [opR, hd0, hx]
    | x :: y :: r => simp [opR]
  · intro v hv
    match r, hv with
    | [x], hv =>
      cases hx : nuM x with
      | none => simp [opR, hx] at hv
      | some a => simp [opR, hx] at hv; rw [← hv]; simp [hd0, numM_V hx]
theorem rd4 {w w' : World} {p b : Nat} {k : Int} {r : List ByteArray} (hl : r.length ≤ 1048577) (h : Pt w' p r.tail.tail.tail (((false || (woO (hd0 r)).isNone) || (numM (hd0 r.tail).data.toList).isNone) || (woO (hd0 r.tail.tail)).isNone)) (hO : OpC w' b k (woV (hd0 r)) (woV (hd0 r.tail.tail)) (nuV (hd0 r.tail)) (.slice none 0 0) (.slice none 0 0)) (hB : Below p w w') : RdP w w' p b k (opR 4 k r) := by
  change Pt w' p r.tail.tail.tail (((false || (woO (hd0 r)).isNone) || (nuM (hd0 r.tail)).isNone) || (woO (hd0 r.tail.tail)).isNone) at h
  refine ⟨⟨k, woV (hd0 r), woV (hd0 r.tail.tail), nuV (hd0 r.tail), [], []⟩, _, _, _, _, h, hO, rfl, hB, rowsNil _ _ _ _ _ _, len_tail (len_tail (len_tail hl)), ?_, ?_⟩
  · match r with
    | [] => have := woO_nil; simp [opR, hd0]; exact fun _ _ => this
    | [x] => have := woO_nil; simp [opR, hd0]; exact fun _ _ => this
    | [x, y] => have := woO_nil; simp [opR, hd0]; exact fun _ _ => this
    | [x, y, z] => cases hx : woO x <;> cases hy : nuM y <;> cases hz : woO z <;> simp [opR, hd0, hx, hy, hz]
    | x :: y :: z :: u :: r => simp [opR]
  · intro v hv
    match r, hv with
    | [x, y, z], hv =>
      cases hx : woO x with
      | none => simp [opR, hx] at hv
      | some a =>
        cases hy : nuM y with
        | none => simp [opR, hx, hy] at hv
        | some n =>
          cases hz : woO z with
          | none => simp [opR, hx, hy, hz] at hv
          | some b => simp [opR, hx, hy, hz] at hv; rw [← hv]; simp [hd0, woO_V hx, woO_V hz, numM_V hy]
theorem rd5 {w w' : World} {p b : Nat} {k : Int} {r : List ByteArray} {u : Value} (h : Pt w' p [] (false || r.any badN)) (hO : OpC w' b k ⟨#[]⟩ ⟨#[]⟩ 0 (.slice none 0 0) u) (hB : Below p w w') (hR : w'.ownsRow w.heap.size 3 1 u r.length (ic (r.map nuV))) : RdP w w' p b k (opR 5 k r) := by
  have e : opR 5 k r = (r.mapM nuM).map fun ks => ⟨k, ⟨#[]⟩, ⟨#[]⟩, 0, [], ks⟩ := by cases r <;> rfl
  rw [e]
  have e2 : r.any badN = !(r.mapM nuM).isSome := by rw [mapM_any, Bool.not_not]; rfl
  refine ⟨⟨k, ⟨#[]⟩, ⟨#[]⟩, 0, [], r.map nuV⟩, _, _, _, _, h, hO, rfl, hB, ⟨ownsNil _ _ _ _, by simpa using hR⟩, by simp, ?_, ?_⟩
  · rw [e2, Option.isSome_map]; simp
  · intro v hv
    cases hm : r.mapM nuM with
    | none => rw [hm] at hv; cases hv
    | some ks =>
      rw [hm] at hv
      cases hv
      rw [mapM_map nuM nuV (fun x v h => numM_V h) r ks hm]
theorem rd6 {w w' : World} {p b : Nat} {k : Int} {r : List ByteArray} {u : Value} {Es : List En} (h : Pt w' p [] (false || (badI (hd0 r) || r.tail.any badI))) (hO : OpC w' b k ⟨#[]⟩ ⟨#[]⟩ 0 u (.slice none 0 0)) (hB : Below p w w') (hR : w'.ownsRow w.heap.size 51 4 u Es.length (cellsE Es)) (hE : ∀ vs, (hd0 r :: r.tail).mapM itO = some vs → Es = vs) : RdP w w' p b k (opR 6 k r) := by
  refine ⟨⟨k, ⟨#[]⟩, ⟨#[]⟩, 0, Es, []⟩, _, _, _, _, h, hO, rfl, hB, ⟨hR, ownsNil _ _ _ _⟩, by simp, ?_, ?_⟩
  · cases r with
    | nil => have := itO_nil; simp [opR, hd0, badI]; exact this
    | cons x r =>
      have e : opR 6 k (x :: r) = ((x :: r).mapM itO).map fun bs => ⟨k, ⟨#[]⟩, ⟨#[]⟩, 0, bs, []⟩ := rfl
      rw [e, Option.isSome_map, mapM_any]
      simp [hd0, badI, List.any_cons]
      rfl
  · intro v hv
    cases r with
    | nil => cases hv
    | cons x r =>
      have e : opR 6 k (x :: r) = ((x :: r).mapM itO).map fun bs => ⟨k, ⟨#[]⟩, ⟨#[]⟩, 0, bs, []⟩ := rfl
      rw [e] at hv
      cases hm : (x :: r).mapM itO with
      | none => rw [hm] at hv; cases hv
      | some bs => rw [hm] at hv; cases hv; rw [hE bs hm]
theorem reader_any (i : Nat) (hi : i < 17) (p b : Nat) (r : List ByteArray) (k : Int) (w w0 : World) (h : Pt w p r false) (hl : r.length ≤ 1048577) (hz : ∀ x ∈ r, x.size ≤ 1048576) (hv : VarsP w0) (hb : Below w0.heap.size w0 w) (hp : w0.heap.size ≤ p) (hO : OpC w b k ⟨#[]⟩ ⟨#[]⟩ 0 (.slice none 0 0) (.slice none 0 0)) (hpb : p < b) :
    Calls Tryz.prog (kF.getD i 0) #[.pointer (some ⟨p, 0, none⟩), .pointer (some ⟨b, 0, none⟩)] w fun e w' => (∃ v, e = .returned v) ∧ RdP w w' p b k (opR (kS.getD i 0) k r) := by
  rcases kFS i hi with ⟨e1, e2⟩ | ⟨e1, e2⟩ | ⟨e1, e2⟩ | ⟨e1, e2⟩ | ⟨e1, e2⟩ | ⟨e1, e2⟩ | ⟨e1, e2⟩ <;> rw [e1, e2]
  · refine (readNothing_any p b w).mono ?_
    rintro e w' ⟨he, rfl⟩
    exact ⟨he, rd0 h hl hO⟩
  · refine (readKey_any p b r false k _ _ 0 _ _ w h hl hO hpb).mono ?_
    rintro e w' ⟨he, h1, h2, h3⟩
    exact ⟨he, rd1 hl h1 h2 h3⟩
  · refine (readKV_any p b r false k _ _ 0 _ _ w h hl hO hpb).mono ?_
    rintro e w' ⟨he, h1, h2, h3⟩
    exact ⟨he, rd2 hl h1 h2 h3⟩
  · refine (readN_any p b r false k _ _ 0 _ _ w w0 h hl hz hv hb hp hO hpb).mono ?_
    rintro e w' ⟨he, h1, h2, h3⟩
    exact ⟨he, rd3 hl h1 h2 h3⟩
  · refine (readPoke_any p b r false k _ _ 0 _ _ w w0 h hl hz hv hb hp hO hpb).mono ?_
    rintro e w' ⟨he, h1, h2, h3⟩
    exact ⟨he, rd4 hl h1 h2 h3⟩
  · refine (readKeep_any p b r false k _ _ 0 _ w w0 h hl hz hv hb hp hO hpb).mono ?_
    rintro e w' ⟨he, u, h1, h2, h3, h4⟩
    exact ⟨he, rd5 h1 h2 h3 h4⟩
  · refine (readBatch_any p b r false k _ _ 0 _ w w0 h hl hz hv hb hp hO hpb).mono ?_
    rintro e w' ⟨he, u, Es, h1, h2, h3, h4, h5⟩
    exact ⟨he, rd6 h1 h2 h3 h4 h5⟩
end Go.Proofs.YtohpfjpgihcmiaaGreatDoor
