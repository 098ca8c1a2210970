import Derived.Test.YtgennghhneckeaaOutAppend
namespace Go.Proofs.Ytgennghhneckeaa
open Go.RowKit Go.Maps
set_option linter.unusedVariables false
set_option linter.unusedSimpArgs false

/-- How many bytes of the end are kept. -/
def kb (ks : List Int) (i : Nat) (most : Int) : Int := if i < ks.length then max 0 (min (ks.getD i 0) most) else 0
/-- How much of a file is left behind a crash, and the file. -/
def crN (ks : List Int) (i : Nat) (f : Fl) : Int := f.sy + kb ks i ((f.dt.size : Int) - f.sy)
def crFl (ks : List Int) (i : Nat) (f : Fl) : Fl := ⟨f.nm, f.dt.extract 0 (crN ks i f).toNat, crN ks i f⟩
/-- The files when the first k of them have gone through the crash. -/
def crs (xs : List Fl) (ks : List Int) (k : Nat) : List Fl := (List.range k).foldl (fun L i => L.set i (crFl ks i (xs.getD i fl0))) xs

theorem crs_zero (xs : List Fl) (ks : List Int) : crs xs ks 0 = xs := rfl
theorem crs_succ (xs : List Fl) (ks : List Int) (k : Nat) : crs xs ks (k + 1) = (crs xs ks k).set k (crFl ks k (xs.getD k fl0)) := by simp [crs, List.range_succ, List.foldl_append]
theorem crs_length (xs : List Fl) (ks : List Int) (k : Nat) : (crs xs ks k).length = xs.length := by
  induction k with
  | zero => rfl
  | succ k ih => rw [crs_succ, List.length_set, ih]
theorem crs_at (xs : List Fl) (ks : List Int) (k j : Nat) (hj : j < xs.length) : (crs xs ks k).getD j fl0 = if j < k then crFl ks j (xs.getD j fl0) else xs.getD j fl0 := by
  induction k with
  | zero => simp [crs_zero]
  | succ k ih =>
    rw [crs_succ]
    have hl : j < (crs xs ks k).length := by rw [crs_length]; exact hj
    by_cases he : k = j
    · subst he
      simp [List.getD, hl]
    · have e1 : ((crs xs ks k).set k (crFl ks k (xs.getD k fl0))).getD j fl0 = (crs xs ks k).getD j fl0 := by simp [List.getD, List.getElem?_set_ne he]
      rw [e1, ih]
      by_cases h1 : j < k
      · rw [if_pos h1, if_pos (by omega)]
      · rw [if_neg h1, if_neg (by omega)]
theorem crs_nm (xs : List Fl) (ks : List Int) (k j : Nat) (hj : j < xs.length) : ((crs xs ks k).getD j fl0).nm = (xs.getD j fl0).nm := by
  rw [crs_at xs ks k j hj]
  split <;> rfl
theorem crs_rise {xs : List Fl} (h : Rise xs) (ks : List Int) (k : Nat) : Rise (crs xs ks k) := by
  intro i j hij hj
  rw [crs_length] at hj
  rw [crs_nm xs ks k i (by omega), crs_nm xs ks k j hj]
  exact h i j hij hj
theorem fm_set {L : List Fl} (h : RiseP L) {i : Nat} {g : Fl} (hi : i < L.length) (hg : g.nm = (L.getD i fl0).nm) : fm (L.set i g) = upd (fm L) g.nm.data.toList (g.dt, g.sy) := by
  induction L generalizing i with
  | nil => simp at hi
  | cons f r ih =>
    obtain ⟨h1, h2⟩ := List.pairwise_cons.1 h
    funext l
    cases i with
    | zero =>
      have hgf : g.nm = f.nm := by simpa using hg
      rw [List.set_cons_zero]
      unfold upd
      by_cases hl : l = g.nm.data.toList
      · rw [if_pos hl]
        have hfr : fm r l = none := by
          cases hm : fm r l with
          | none => rfl
          | some y =>
            have : l ∈ nms r := mem_fm.2 (by rw [hm]; rfl)
            obtain ⟨x, hx, e⟩ := List.mem_map.1 this
            have hlt := h1 x hx
            unfold lessB at hlt
            rw [ByteArray.toList_eq, ByteArray.toList_eq, e, hl, hgf, less_irrefl] at hlt
            cases hlt
        simp only [fm, hfr]
        rw [if_pos hl]
      · rw [if_neg hl]
        simp only [fm]
        have hl' : ¬ l = f.nm.data.toList := by rw [← hgf]; exact hl
        rw [if_neg hl, if_neg hl']
    | succ i =>
      have hi' : i < r.length := by simpa using hi
      have := congrFun (ih h2 hi' (by simpa using hg)) l
      rw [List.set_cons_succ]
      simp only [fm, this]
      unfold upd
      by_cases hl : l = g.nm.data.toList
      · simp [hl]
      · simp only [if_neg hl, fm]
theorem crs_fm {xs : List Fl} (h : Rise xs) (ks : List Int) {k : Nat} (hk : k < xs.length) :
    fm (crs xs ks (k + 1)) = upd (fm (crs xs ks k)) (xs.getD k fl0).nm.data.toList ((crFl ks k (xs.getD k fl0)).dt, (crFl ks k (xs.getD k fl0)).sy) := by
  rw [crs_succ]
  refine fm_set (rise_iff.1 (crs_rise h ks k)) (by rw [crs_length]; exact hk) ?_
  rw [crs_nm xs ks k k hk]
  rfl
theorem crs_same (xs : List Fl) (ks : List Int) {k : Nat} (hk : k < xs.length) : (crs xs ks k).getD k fl0 = xs.getD k fl0 := by
  rw [crs_at xs ks k k hk, if_neg (by omega)]
end Go.Proofs.Ytgennghhneckeaa
namespace Go.Proofs.Ytgennghhneckeaa
open Go.RowKit Go.Maps
set_option linter.unusedVariables false
set_option linter.unusedSimpArgs false

/-- Numbers lie one behind the other. -/
def LieI (w : World) (a : Option Addr) (ks : List Int) : Prop :=
  ks = [] ∨ ∃ b off, a = some ⟨b, off, none⟩ ∧ b < w.heap.size ∧ ∀ i, i < ks.length → w.cell? ⟨b, off + i, none⟩ = some (.int .i64 (ks.getD i 0))
theorem LieI.at {w : World} {a : Option Addr} {ks : List Int} (h : LieI w a ks) {i : Nat} (hi : i < ks.length) :
    ∃ b off, a = some ⟨b, off, none⟩ ∧ b < w.heap.size ∧ w.cell? ⟨b, off + i, none⟩ = some (.int .i64 (ks.getD i 0)) := by
  rcases h with rfl | ⟨b, off, rfl, hlt, hc⟩
  · simp at hi
  · exact ⟨b, off, rfl, hlt, hc i hi⟩
theorem LieI.kept {w w' : World} {a : Option Addr} {ks : List Int} (h : LieI w a ks) (hs : w.heap.size ≤ w'.heap.size) (hb : ∀ b off, a = some ⟨b, off, none⟩ → ks ≠ [] → b < w.heap.size → w'.heap[b]? = w.heap[b]?) : LieI w' a ks := by
  by_cases h0 : ks = []
  · exact .inl h0
  rcases h with h | ⟨b, off, rfl, hlt, hc⟩
  · exact absurd h h0
  · exact .inr ⟨b, off, rfl, by omega, fun i hi => (World.cell?_of_block (hb b off rfl h0 hlt)).trans (hc i hi)⟩
theorem LieI.lt {w : World} {a : Option Addr} {ks : List Int} (h : LieI w a ks) : ∀ b off, a = some ⟨b, off, none⟩ → ks ≠ [] → b < w.heap.size := by
  intro b off e h0
  rcases h with h | ⟨b', off', rfl, hlt, hc⟩
  · exact absurd h h0
  · cases e
    exact hlt
theorem LieI.below {w w' : World} {a : Option Addr} {ks : List Int} (h : LieI w a ks) (hb : Below w.heap.size w w') : LieI w' a ks := h.kept hb.size (fun b off _ _ hl => hb.block b hl)

set_option maxRecDepth 100000 in
set_option maxHeartbeats 1000000 in
theorem kept_any (a : Option Addr) (cap i : Nat) (ks : List Int) (most : Int) (w : World) (hl : LieI w a ks) (hn : ks.length ≤ 1048576) (hi : i ≤ 1048576) :
    Calls Try.prog 43 #[.slice a ks.length cap, .int .i64 i, .int .i64 most] w fun e w' => e = .returned (.int .i64 (kb ks i most)) ∧ w' = w := by
  by_cases hlt : i < ks.length
  · obtain ⟨b, off, rfl, hbl, c0⟩ := hl.at hlt
    have HK : Hid (kb ks i most = max 0 (min (ks.getD i 0) most)) := by show _ = _; unfold kb; rw [if_pos hlt]
    generalize ks.getD i 0 = k at *
    have h1 : (i : Int) < (ks.length : Int) := by omega
    go_enter Try.func43, Try.ntmps43
    go_wp2
    go_ret
    exact ⟨ret_int HK.out.symm, rfl⟩
  · have HK : Hid (kb ks i most = 0) := by show _ = _; unfold kb; rw [if_neg hlt]
    have h1 : (ks.length : Int) ≤ (i : Int) := by omega
    go_enter Try.func43, Try.ntmps43
    go_wp2
    go_ret
    exact ⟨ret_int HK.out.symm, rfl⟩
end Go.Proofs.Ytgennghhneckeaa
