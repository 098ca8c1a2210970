import Derived.Test.YtgkhjjnhikbdaaaNwW
namespace Go.Proofs.Ytgkhjjnhikbdaaa
open Go.RowKit Go.Maps
set_option linter.unusedVariables false
set_option linter.unusedSimpArgs false

/-- The cells of fronts. -/
def cellF (cs : List SD) (hd : Nat → En) (p : Nat) : List Value := [.string (hd p).ky, .int .i64 (hd p).sq, .int .i64 (hd p).kd, .string (hd p).vl, .int .i64 (p : Int), (cs.getD p sd0).fn]
def cellsF (cs : List SD) (hd : Nat → En) (ps : List Nat) : List Value := ps.flatMap (cellF cs hd)
theorem cellsF_snoc (cs : List SD) (hd : Nat → En) (ps : List Nat) (p : Nat) : cellsF cs hd (ps ++ [p]) = cellsF cs hd ps ++ cellF cs hd p := by simp [cellsF]
theorem cellsF_len (cs : List SD) (hd : Nat → En) (ps : List Nat) : (cellsF cs hd ps).length = ps.length * 6 := by
  induction ps with
  | nil => rfl
  | cons x r ih => simp [cellsF, cellF] at *; omega
theorem cellsF_at (cs : List SD) (hd : Nat → En) (ps : List Nat) (i : Nat) (hi : i < ps.length) : ∀ k, k < 6 → (cellsF cs hd ps)[i * 6 + k]? = (cellF cs hd (ps.getD i 0))[k]? := by
  induction ps generalizing i with
  | nil => simp at hi
  | cons x r ih =>
    intro k hk
    have e : cellsF cs hd (x :: r) = cellF cs hd x ++ cellsF cs hd r := rfl
    have l6 : (cellF cs hd x).length = 6 := rfl
    cases i with
    | zero => rw [e, Nat.zero_mul, Nat.zero_add, List.getElem?_append_left (by rw [l6]; exact hk)]; rfl
    | succ i =>
      have h := ih i (by simpa using hi) k hk
      have g : (x :: r).getD (i + 1) 0 = r.getD i 0 := rfl
      rw [g, ← h, e, List.getElem?_append_right (by rw [l6]; omega), l6]
      congr 1
      omega
theorem rowF_of_owns {w : World} {B n : Nat} {v : Value} {cs : List SD} {hd : Nat → En} {ps : List Nat} (h : w.ownsRow B 70 6 v n (cellsF cs hd ps)) :
    n = ps.length ∧ ∃ a cap, v = .slice a ps.length cap ∧ ps.length ≤ cap ∧ (ps = [] ∨ ∃ g, a = some ⟨g, 0, none⟩ ∧ B ≤ g ∧ RowF w g ps.length cs hd ps) := by
  obtain ⟨h1, h2⟩ := h
  have hn : n = ps.length := by rw [cellsF_len] at h1; omega
  refine ⟨hn, ?_⟩
  subst hn
  rcases h2 with ⟨rfl, h0⟩ | ⟨g, cap, cur, rfl, hg, hb, hl, hm, hsz, htk⟩
  · exact ⟨none, 0, by rw [h0], by omega, .inl (List.length_eq_zero_iff.1 h0)⟩
  · have hcell : ∀ j, j < ps.length * 6 → cur[j]? = (cellsF cs hd ps)[j]? := fun j hj => by
      have e1 : (cur.toList.take (ps.length * 6))[j]? = (cellsF cs hd ps)[j]? := by rw [htk]
      rw [List.getElem?_take_of_lt hj] at e1
      simpa using e1
    refine ⟨some ⟨g, 0, none⟩, cap, rfl, hl, .inr ⟨g, rfl, hg, cur, hb, by rw [hsz]; omega, Nat.le_refl _, fun i hi => ?_⟩⟩
    have key : ∀ k, k < 6 → cur[i * 6 + k]? = (cellF cs hd (ps.getD i 0))[k]? := fun k hk => by rw [hcell _ (by omega), cellsF_at cs hd ps i hi k hk]
    exact ⟨key 0 (by omega), key 1 (by omega), key 2 (by omega), key 3 (by omega), key 4 (by omega), key 5 (by omega)⟩
/-- A source whose memory lies below B. -/
def SrcB (B : Nat) (c : SD) : Prop := c.pa < B ∧ c.pl < B ∧ (c.xs = [] ∨ ∃ b off, c.a = some ⟨b, off, none⟩ ∧ b < B)
theorem SrcAt.low {w : World} {c : SD} {i : Nat} (h : SrcAt w c i) : SrcB w.heap.size c := by
  refine ⟨heap_lt h.at_, heap_lt h.li, ?_⟩
  rcases h.ls with h1 | ⟨b, off, h1, h2, -⟩
  · exact .inl h1
  · exact .inr ⟨b, off, h1, h2⟩
theorem SrcAt.keep {w w' : World} {c : SD} {i B : Nat} (h : SrcAt w c i) (hB : SrcB B c) (hk : ∀ j, j < B → w'.heap[j]? = w.heap[j]?) (hs : w.heap.size ≤ w'.heap.size) : SrcAt w' c i := by
  refine ⟨(hk _ hB.1).trans h.at_, (hk _ hB.2.1).trans h.li, ?_, h.le, h.ln⟩
  rcases hB.2.2 with h1 | ⟨b, off, h1, h2⟩
  · exact .inl h1
  · rcases h.ls with h3 | ⟨b', off', h3, h4, h5⟩
    · exact .inl h3
    · rw [h1] at h3
      cases h3
      refine .inr ⟨b, off, h1, Nat.lt_of_lt_of_le h4 hs, fun j hj => ?_⟩
      obtain ⟨a0, a1, a2, a3⟩ := h5 j hj
      have ke : ∀ o, w'.cell? ⟨b, o, none⟩ = w.cell? ⟨b, o, none⟩ := fun o => by simp only [World.cell?, hk b h2]
      exact ⟨(ke _).trans a0, (ke _).trans a1, (ke _).trans a2, (ke _).trans a3⟩
/-- Another source has been asked. -/
theorem SrcAt.other {w w' : World} {c d : SD} {i k : Nat} (h : SrcAt w c i) (hd : SrcAt w d k) (hne : c.pa ≠ d.pa) (ho : OnlyG d.pa w w') : SrcAt w' c i := by
  have hpl : c.pl ≠ d.pa := fun e => by
    have h1 := h.li
    rw [e, hd.at_] at h1
    injection h1 with h1
    injection h1 with h2 h3
    simp at h2
  exact ⟨(ho.block _ (heap_lt h.at_) hne).trans h.at_, (ho.block _ (heap_lt h.li) hpl).trans h.li, h.ls.setAt hd.at_ ho, h.le, h.ln⟩
/-- Only the sources' places have changed. -/
structure OnlyS (cs : List SD) (w w' : World) : Prop where
  os : w'.os = w.os
  tape : w'.tape = w.tape
  output : w'.output = w.output
  size : w.heap.size ≤ w'.heap.size
  block : ∀ j, j < w.heap.size → (∀ p, p < cs.length → j ≠ (cs.getD p sd0).pa) → w'.heap[j]? = w.heap[j]?
theorem OnlyS.trans {cs : List SD} {a b c : World} (h : OnlyS cs a b) (k : OnlyS cs b c) : OnlyS cs a c :=
  ⟨k.os.trans h.os, k.tape.trans h.tape, k.output.trans h.output, Nat.le_trans h.size k.size, fun j hj hn => (k.block j (Nat.lt_of_lt_of_le hj h.size) hn).trans (h.block j hj hn)⟩
theorem OnlyS.of {cs : List SD} {w w' : World} (h : Below w.heap.size w w') : OnlyS cs w w' := ⟨h.os, h.tape, h.output, h.size, fun j hj _ => h.block j hj⟩
theorem OnlyS.refl (cs : List SD) (w : World) : OnlyS cs w w := ⟨rfl, rfl, rfl, Nat.le_refl _, fun _ _ _ => rfl⟩
theorem OnlyS.then {cs : List SD} {w w1 w2 : World} {B : Nat} (h : OnlyS cs w w1) (hb : Below B w1 w2) (hB : w.heap.size ≤ B) : OnlyS cs w w2 :=
  ⟨hb.os.trans h.os, hb.tape.trans h.tape, hb.output.trans h.output, Nat.le_trans h.size hb.size, fun j hj hn => (hb.block j (by omega)).trans (h.block j hj hn)⟩
theorem OnlyS.one {cs : List SD} {w w' : World} {p : Nat} (hp : p < cs.length) (h : OnlyG (cs.getD p sd0).pa w w') : OnlyS cs w w' := ⟨h.os, h.tape, h.output, h.size, fun j hj hn => h.block j hj (hn p hp)⟩
/-- No two sources have their place in one block. -/
def PaD (cs : List SD) : Prop := ∀ p q, p < cs.length → q < cs.length → p ≠ q → (cs.getD p sd0).pa ≠ (cs.getD q sd0).pa
/-- Each source has given so many entries. -/
def SrcAll (w : World) (cs : List SD) (pos : Nat → Nat) : Prop := ∀ p, p < cs.length → SrcAt w (cs.getD p sd0) (pos p)
theorem SrcAll.ask {w w' : World} {cs : List SD} {pos : Nat → Nat} (h : SrcAll w cs pos) (hd : PaD cs) {p : Nat} (hp : p < cs.length) (ho : OnlyG (cs.getD p sd0).pa w w') (hn : SrcAt w' (cs.getD p sd0) (pos p + 1)) : SrcAll w' cs (fun q => if q = p then pos p + 1 else pos q) := fun q hq => by
  by_cases e : q = p
  · subst e; simp only [if_pos]; exact hn
  · simp only [if_neg e]
    exact (h q hq).other (h p hp) (hd q p hq hp e) ho
theorem SrcAll.below {w w' : World} {cs : List SD} {pos : Nat → Nat} (h : SrcAll w cs pos) (hb : Below w.heap.size w w') : SrcAll w' cs pos := fun p hp => (h p hp).below hb
theorem SrcAll.keep {w w' : World} {cs : List SD} {pos : Nat → Nat} {B : Nat} (h : SrcAll w cs pos) (hB : ∀ p, p < cs.length → SrcB B (cs.getD p sd0)) (hk : ∀ j, j < B → w'.heap[j]? = w.heap[j]?) (hs : w.heap.size ≤ w'.heap.size) : SrcAll w' cs pos := fun p hp => (h p hp).keep (hB p hp) hk hs
theorem SrcAll.cong {w : World} {cs : List SD} {pos pos' : Nat → Nat} (h : SrcAll w cs pos) (he : ∀ p, p < cs.length → pos p = pos' p) : SrcAll w cs pos' := fun p hp => by rw [← he p hp]; exact h p hp
/-- The functions of the sources lie one behind the other. -/
def LieS (w : World) (a : Option Addr) (cs : List SD) : Prop := cs = [] ∨ ∃ b off, a = some ⟨b, off, none⟩ ∧ b < w.heap.size ∧ ∀ p, p < cs.length → w.cell? ⟨b, off + p, none⟩ = some (cs.getD p sd0).fn
theorem int_not_func {w : World} {g o : Nat} {z : Int} {f : Fn} {x y : Array Value} {t : TypeId} (h : w.heap[g]? = some (.cells #[.int .i64 z] t (0, 0))) (hc : w.cell? ⟨g, o, none⟩ = some (.func f x y)) : False := by
  simp [World.cell?, h] at hc
  match o, hc with
  | 0, hc => simp at hc
  | o + 1, hc => simp at hc
theorem LieS.only {w w' : World} {a : Option Addr} {cs : List SD} {pos : Nat → Nat} (h : LieS w a cs) (hs : SrcAll w cs pos) (ho : OnlyS cs w w') : LieS w' a cs := by
  rcases h with h | ⟨b, off, rfl, hb, hc⟩
  · exact .inl h
  · by_cases hn : cs = []
    · exact .inl hn
    · have h0 : 0 < cs.length := List.length_pos_iff.2 hn
      have hk := ho.block b hb (fun p hp e => by
        have h1 := (hs p hp).at_
        rw [← e] at h1
        exact int_not_func h1 (hc 0 h0))
      exact .inr ⟨b, off, rfl, Nat.lt_of_lt_of_le hb ho.size, fun p hp => by have := hc p hp; simp only [World.cell?, hk] at this ⊢; exact this⟩
theorem LieS.at {w : World} {a : Option Addr} {cs : List SD} (h : LieS w a cs) {p : Nat} (hp : p < cs.length) : ∃ b off, a = some ⟨b, off, none⟩ ∧ b < w.heap.size ∧ w.cell? ⟨b, off + p, none⟩ = some (cs.getD p sd0).fn := by
  rcases h with rfl | ⟨b, off, h1, h2, h3⟩
  · simp at hp
  · exact ⟨b, off, h1, h2, h3 p hp⟩
/-- The places of the first k sources that have an entry. -/
def psK (cs : List SD) (k : Nat) : List Nat := (List.range k).filter fun p => !(cs.getD p sd0).xs.isEmpty
theorem psK_succ (cs : List SD) (k : Nat) : psK cs (k + 1) = psK cs k ++ (if (cs.getD k sd0).xs.isEmpty then [] else [k]) := by
  unfold psK
  rw [List.range_succ, List.filter_append]
  congr 1
  rw [List.filter_cons, List.filter_nil]
  cases h : (cs.getD k sd0).xs.isEmpty <;> rfl
theorem psK_len (cs : List SD) (k : Nat) : (psK cs k).length ≤ k := by
  unfold psK
  have := List.length_filter_le (fun p => !(cs.getD p sd0).xs.isEmpty) (List.range k)
  simpa using this
def hdC (cs : List SD) (p : Nat) : En := (cs.getD p sd0).xs.headD en0
theorem psK_mg (cs : List SD) (hs : ∀ p, Srtd befE (cs.getD p sd0).xs) : MgP (cs.map SD.xs) (psK cs cs.length) := by
  have e : ∀ p, (cs.map SD.xs).getD p [] = (cs.getD p sd0).xs := fun p => by
    rw [List.getD_eq_getElem?_getD, List.getElem?_map, List.getD_eq_getElem?_getD]
    cases cs[p]? <;> rfl
  refine ⟨List.Nodup.sublist List.filter_sublist List.nodup_range, fun p => ?_, fun p => by rw [e]; exact hs p⟩
  rw [e, List.length_map]
  unfold psK
  rw [List.mem_filter, List.mem_range]
  simp
theorem hdC_eq (cs : List SD) : hdC cs = hdR (cs.map SD.xs) := by
  funext p
  unfold hdC hdR
  have e : (cs.map SD.xs).getD p [] = (cs.getD p sd0).xs := by
    rw [List.getD_eq_getElem?_getD, List.getElem?_map, List.getD_eq_getElem?_getD]
    cases cs[p]? <;> rfl
  rw [e]
end Go.Proofs.Ytgkhjjnhikbdaaa
