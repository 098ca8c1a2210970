import Derived.Test.YtohpfjpgihcmiaaGreatDoorLpA

namespace Go.Proofs.YtohpfjpgihcmiaaGreatDoor
open Go.RowKit Go.Maps
set_option linter.unusedVariables false
set_option linter.unusedSimpArgs false

/-- Operations whose rows the call made: block G, every row a block of its own. -/
structure MkO (w : World) (G B : Nat) (os : List OpW) : Prop where
  blk : ∃ cs : Array Value, w.heap[G]? = some (.cells cs 38 (0, 0)) ∧ os.length * 6 ≤ cs.size ∧ ∀ i, i < os.length → ∀ j, j < 6 → cs[i * 6 + j]? = (op6 (os.getD i ow0))[j]?
  rE : ∀ i, i < os.length → ∃ c cap, (os.getD i ow0).ba = .slice c (os.getD i ow0).o.bt.length cap ∧ ResE w B c (os.getD i ow0).o.bt
  rI : ∀ i, i < os.length → ∃ c cap, (os.getD i ow0).bk = .slice c (os.getD i ow0).o.kp.length cap ∧ ResI w B c (os.getD i ow0).o.kp
  dis : ∀ i j, i < os.length → j < os.length → i ≠ j → ∀ g, ((os.getD i ow0).ba.ownBlock = some g → (os.getD j ow0).ba.ownBlock ≠ some g) ∧ ((os.getD i ow0).bk.ownBlock = some g → (os.getD j ow0).bk.ownBlock ≠ some g)
  hB : B ≤ G
theorem setD (os : List OpW) (i j : Nat) (x : OpW) (hi : i < os.length) : (os.set i x).getD j ow0 = if j = i then x else os.getD j ow0 := by
  rw [List.getD_eq_getElem?_getD, List.getElem?_set, List.getD_eq_getElem?_getD]
  by_cases h : i = j
  · subst h; simp [hi]
  · rw [if_neg h, if_neg (fun e => h e.symm)]
theorem mkO_of {w : World} {B : Nat} {v : Value} {os : List OpW} (h : ScR w B v os) (hne : os ≠ []) : ∃ G cap, v = .slice (some ⟨G, 0, none⟩) os.length cap ∧ MkO w G B os := by
  rcases h.row.2 with ⟨rfl, h0⟩ | ⟨g, cap, cur, rfl, hg, hb, hl, hm, hsz, htk⟩
  · exact absurd (List.length_eq_zero_iff.1 h0) hne
  · have hgd : ∀ i, (hi : i < os.length) → os.getD i ow0 = os[i] := fun i hi => by simp [List.getD, hi]
    refine ⟨g, cap, rfl, ⟨cur, hb, by rw [hsz]; omega, fun i hi j hj => ?_⟩, fun i hi => ?_, fun i hi => ?_, fun i j hi hj hij gg => ?_, hg⟩
    · have e1 : (cur.toList.take (os.length * 6))[i * 6 + j]? = (cellsO os)[i * 6 + j]? := by rw [htk]
      rw [List.getElem?_take_of_lt (by omega)] at e1
      rw [← cellsO_at os i j hi hj, ← e1]
      simp
    · obtain ⟨-, a1, c1, e1, r1⟩ := resE_of_owns (h.rows _ (getD_memO hi)).1
      exact ⟨a1, c1, e1, r1⟩
    · obtain ⟨-, a1, c1, e1, r1⟩ := resI_of_owns (h.rows _ (getD_memO hi)).2
      exact ⟨a1, c1, e1, r1⟩
    · have hp := List.pairwise_iff_getElem.1 h.dis
      rw [hgd i hi, hgd j hj]
      rcases Nat.lt_or_gt_of_ne hij with hlt | hlt
      · exact hp i j hi hj hlt gg
      · have := hp j i hj hi hlt gg
        exact ⟨fun e1 e2 => this.1 e2 e1, fun e1 e2 => this.2 e2 e1⟩
theorem MkO.below {w w' : World} {G B : Nat} {os : List OpW} (h : MkO w G B os) (hb : Below w.heap.size w w') : MkO w' G B os := by
  obtain ⟨cs, h1, h2, h3⟩ := h.blk
  refine ⟨⟨cs, (hb.block G (heap_lt h1)).trans h1, h2, h3⟩, fun i hi => ?_, fun i hi => ?_, h.dis, h.hB⟩
  · obtain ⟨c, cap, e, r⟩ := h.rE i hi
    exact ⟨c, cap, e, r.below hb⟩
  · obtain ⟨c, cap, e, r⟩ := h.rI i hi
    exact ⟨c, cap, e, r.below hb⟩
theorem MkO.lie {w : World} {G B : Nat} {os : List OpW} (h : MkO w G B os) : LieO w (some ⟨G, 0, none⟩) os := by
  obtain ⟨cs, h1, h2, h3⟩ := h.blk
  refine ⟨.inr ⟨G, 0, rfl, heap_lt h1, fun i hi j hj => ?_⟩, fun x hx => ?_⟩
  · simp only [World.cell?, h1, Nat.zero_add]
    rw [h3 i hi j hj]; rfl
  · obtain ⟨i, hi, rfl⟩ := List.mem_iff_getElem.1 hx
    have e : os.getD i ow0 = os[i] := by simp [List.getD, hi]
    obtain ⟨c, cap, e1, r1⟩ := h.rE i hi
    obtain ⟨d, dap, e2, r2⟩ := h.rI i hi
    rw [e] at e1 r1 e2 r2
    exact ⟨⟨c, cap, e1, r1.lie⟩, ⟨d, dap, e2, r2.lie⟩⟩
/-- The marks of one operation. -/
def mkX (x : OpW) (k : Nat) : OpW := ⟨⟨(k : Nat), mt (k + 1), mt (k + 2), ((k + 3 : Nat) : Int), mkE (k + 4) x.o.bt.length, mkI (k + 4 + 4 * x.o.bt.length) x.o.kp.length⟩, x.ba, x.bk⟩
def nxK (x : OpW) (k : Nat) : Nat := k + 4 + 4 * x.o.bt.length + x.o.kp.length
/-- Only block g has changed, or nothing at all. -/
def OnlyE (w w' : World) (c : Option Addr) (n : Nat) (P : Nat → Prop) : Prop := (n = 0 ∧ w' = w) ∨ ∃ g, c = some ⟨g, 0, none⟩ ∧ 0 < n ∧ Only g w w' ∧ P g
theorem markE_any (a : Option Addr) (cap : Nat) (bt : List En) (B : Nat) (w : World) (x : Int) (k : Nat) (hx : x = k) (h1 : 1 ≤ k) (h2 : k ≤ 900000000) (hl : bt.length ≤ 300000) (hr : ResE w B a bt) :
    Calls Tryz.prog 41 #[.slice a bt.length cap, .int .i64 x] w fun e w' => e = .returned (.int .i64 ((k + 4 * bt.length : Nat) : Int)) ∧ OnlyE w w' a bt.length fun g => RowE w' g bt.length (mkE k bt.length) bt.length := by
  subst hx
  rcases hr with rfl | ⟨g, rfl, hg, hrow⟩
  · refine (markEntryS_empty a cap k w).mono ?_
    rintro e w' ⟨rfl, rfl⟩
    exact ⟨rfl, .inl ⟨rfl, rfl⟩⟩
  · by_cases h0 : bt = []
    · subst h0
      refine (markEntryS_empty _ cap k w).mono ?_
      rintro e w' ⟨rfl, rfl⟩
      exact ⟨rfl, .inl ⟨rfl, rfl⟩⟩
    · refine (markEntryS_row g cap bt.length k w _ hl h1 h2 (hrow.zero [])).mono ?_
      rintro e w' ⟨rfl, hr, ho⟩
      exact ⟨rfl, .inr ⟨g, rfl, List.length_pos_iff.2 h0, ho, hr⟩⟩
theorem markI_any (a : Option Addr) (cap : Nat) (kp : List Int) (B : Nat) (w : World) (x : Int) (k : Nat) (hx : x = k) (h2 : k ≤ 1000000000) (hl : kp.length ≤ 300000) (hr : ResI w B a kp) :
    Calls Tryz.prog 42 #[.slice a kp.length cap, .int .i64 x] w fun e w' => e = .returned (.int .i64 ((k + kp.length : Nat) : Int)) ∧ OnlyE w w' a kp.length fun g => RowI w' g kp.length (mkI k kp.length) kp.length := by
  subst hx
  by_cases h0 : kp = []
  · subst h0
    refine (markInts_empty a cap k w).mono ?_
    rintro e w' ⟨rfl, rfl⟩
    exact ⟨rfl, .inl ⟨rfl, rfl⟩⟩
  · rcases hr with h | ⟨g, rfl, hg, hrow⟩
    · exact absurd h h0
    · refine (markInts_row g cap kp.length k w _ hl h2 (hrow.zero [])).mono ?_
      rintro e w' ⟨rfl, hr, ho⟩
      exact ⟨rfl, .inr ⟨g, rfl, List.length_pos_iff.2 h0, ho, hr⟩⟩
/-- A change of block g leaves a row that lies elsewhere. -/
theorem ResE.only {w w' : World} {B g : Nat} {a : Option Addr} {xs : List En} (h : ResE w B a xs) (ho : Only g w w') (hn : ∀ q, a = some ⟨q, 0, none⟩ → q ≠ g) : ResE w' B a xs := by
  rcases h with h | ⟨q, rfl, hq, hr⟩
  · exact .inl h
  · exact .inr ⟨q, rfl, hq, hr.block (ho.block q hr.lt (hn q rfl))⟩
theorem ResI.only {w w' : World} {B g : Nat} {a : Option Addr} {xs : List Int} (h : ResI w B a xs) (ho : Only g w w') (hn : xs ≠ [] → ∀ q, a = some ⟨q, 0, none⟩ → q ≠ g) : ResI w' B a xs := by
  rcases h with h | ⟨q, rfl, hq, hr⟩
  · exact .inl h
  · by_cases h0 : xs = []
    · exact .inl h0
    · exact .inr ⟨q, rfl, hq, hr.block (ho.block q hr.lt (hn h0 q rfl))⟩
theorem ResE.onlyT {w w' : World} {B g : Nat} {a : Option Addr} {xs : List En} {cs : Array Value} {t : TypeId} (h : ResE w B a xs) (ho : Only g w w') (hg : w.heap[g]? = some (.cells cs t (0, 0))) (ht : t ≠ 51) : ResE w' B a xs := by
  rcases h with h | ⟨q, rfl, hq, hr⟩
  · exact .inl h
  · refine .inr ⟨q, rfl, hq, hr.block (ho.block q hr.lt (fun e => ?_))⟩
    subst e
    obtain ⟨cs', h1, -⟩ := hr
    rw [h1] at hg
    simp at hg
    exact ht hg.2.symm
theorem ResI.onlyT {w w' : World} {B g : Nat} {a : Option Addr} {xs : List Int} {cs : Array Value} {t : TypeId} (h : ResI w B a xs) (ho : Only g w w') (hg : w.heap[g]? = some (.cells cs t (0, 0))) (ht : t ≠ 3) : ResI w' B a xs := by
  rcases h with h | ⟨q, rfl, hq, hr⟩
  · exact .inl h
  · refine .inr ⟨q, rfl, hq, hr.block (ho.block q hr.lt (fun e => ?_))⟩
    subst e
    obtain ⟨cs', h1, -⟩ := hr
    rw [h1] at hg
    simp at hg
    exact ht hg.2.symm
end Go.Proofs.YtohpfjpgihcmiaaGreatDoor
