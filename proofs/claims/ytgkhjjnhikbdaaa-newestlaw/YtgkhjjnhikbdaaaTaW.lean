import Derived.Test.YtgkhjjnhikbdaaaNaT

namespace Go.Proofs.Ytgkhjjnhikbdaaa
open Go.RowKit Go.Maps
set_option linter.unusedVariables false
set_option linter.unusedSimpArgs false

set_option maxRecDepth 100000 in
set_option maxHeartbeats 2000000 in
theorem wSameEntries_same (a c : Option Addr) (cap cap' : Nat) (xs : List En) (w : World) (hx : LieE w a xs) (hy : LieE w c xs) (hlen : xs.length ≤ 1048576) :
    Calls Try.prog 15 #[.slice a xs.length cap, .slice c xs.length cap'] w fun e w' => e = .returned (.bool true) ∧ Below w.heap.size w w' := by
  go_enter Try.func15, Try.ntmps15
  go_wp2
  go_loopw [5] (fun i wr => ∃ k : Nat, k ≤ xs.length ∧ i = .int .i64 k ∧ Below w.heap.size w wr) (fun i _ => xs.length - (intOf i).toNat)
  case atStart => exact ⟨0, Nat.zero_le _, rfl, Below.refl _ _⟩
  case round =>
    obtain ⟨k, hk, rfl, hb⟩ := hrel
    by_cases hlt : k < xs.length
    · obtain ⟨b, off, rfl, hbl, c0, c1, c2, c3⟩ := (hx.below hb).at hlt
      obtain ⟨b', off', rfl, hbl', d0, d1, d2, d3⟩ := (hy.below hb).at hlt
      generalize xs.getD k en0 = f at *
      have i1 : (k : Int) < (xs.length : Int) := by omega
      go_wp2_with fail
      go_region_held3 (fun w' => w'.cell? ⟨b, off + k * 4, none⟩ = some (.string f.ky) ∧ w'.cell? ⟨b, off + k * 4 + 1, none⟩ = some (.int .i64 f.sq) ∧ w'.cell? ⟨b, off + k * 4 + 2, none⟩ = some (.int .i64 f.kd) ∧ w'.cell? ⟨b, off + k * 4 + 3, none⟩ = some (.string f.vl) ∧ w'.cell? ⟨b', off' + k * 4, none⟩ = some (.string f.ky) ∧ w'.cell? ⟨b', off' + k * 4 + 1, none⟩ = some (.int .i64 f.sq) ∧ w'.cell? ⟨b', off' + k * 4 + 2, none⟩ = some (.int .i64 f.kd) ∧ w'.cell? ⟨b', off' + k * 4 + 3, none⟩ = some (.string f.vl)) (simp [go_sem, *]) (fail)
      all_goals go_wp2
      all_goals exact ⟨⟨k + 1, by omega, by go_num, hb.drew⟩, by simp [intOf]; omega⟩
    · go_wp2
      go_ret
      exact ⟨rfl, hb⟩

/-- How many entries are drawn. -/
def cntN (len : Nat) : Nat := min (len / 5) 40
/-- One step of a draw's sorting: what comes next, and whether the new one is in. -/
def stS (e : En) (st : List En × Bool) (o : En) : List En × Bool :=
  ((if st.2 = false ∧ befE o e = false then st.1 ++ [e] else st.1) ++ (if (o.ky.toList == e.ky.toList) = true ∧ o.sq = e.sq then [] else [o]), st.2 || !befE o e)
def inS (e : En) (out : List En) : List En × Bool := out.foldl (stS e) ([], false)
def puS (out : List En) (e : En) : List En := if (inS e out).2 = true then (inS e out).1 else (inS e out).1 ++ [e]
def soS (es : List En) : List En := es.foldl puS []
theorem inS_snoc (e : En) (out : List En) (o : En) : inS e (out ++ [o]) = stS e (inS e out) o := by simp [inS]
theorem soS_snoc (es : List En) (e : En) : soS (es ++ [e]) = puS (soS es) e := by simp [soS]
theorem inS_len (e : En) : ∀ (out : List En), (inS e out).1.length ≤ out.length + (if (inS e out).2 = true then 1 else 0) := by
  intro out
  induction h : out.length generalizing out with
  | zero =>
    obtain rfl := List.eq_nil_of_length_eq_zero h
    simp [inS]
  | succ n ih =>
    obtain ⟨ys, o, rfl⟩ : ∃ ys o, out = ys ++ [o] := by
      rcases List.eq_nil_or_concat out with rfl | ⟨ys, o, h2⟩
      · simp at h
      · exact ⟨ys, o, by simpa using h2⟩
    have hn : ys.length = n := by simpa using h
    have hi := ih ys hn
    rw [inS_snoc]
    generalize inS e ys = st at *
    obtain ⟨l, d⟩ := st
    simp only [stS, List.length_append]
    cases d <;> cases befE o e <;> simp at hi ⊢ <;> split <;> simp <;> omega
theorem puS_len (out : List En) (e : En) : (puS out e).length ≤ out.length + 1 := by
  have h := inS_len e out
  unfold puS
  split
  · rename_i hd
    rw [if_pos hd] at h
    exact h
  · rename_i hd
    rw [if_neg hd] at h
    simp
    omega
theorem soS_len (es : List En) : (soS es).length ≤ es.length := by
  induction h : es.length generalizing es with
  | zero =>
    obtain rfl := List.eq_nil_of_length_eq_zero h
    simp [soS]
  | succ n ih =>
    obtain ⟨ys, o, rfl⟩ : ∃ ys o, es = ys ++ [o] := by
      rcases List.eq_nil_or_concat es with rfl | ⟨ys, o, h2⟩
      · simp at h
      · exact ⟨ys, o, by simpa using h2⟩
    have hn : ys.length = n := by simpa using h
    have hi := ih ys hn
    rw [soS_snoc]
    have := puS_len (soS ys) o
    omega
theorem inS_small {e : En} (he : e.ky.size ≤ 70 ∧ e.vl.size ≤ 1000) : ∀ (out : List En), SmallE out → SmallE (inS e out).1 := by
  intro out
  induction h : out.length generalizing out with
  | zero =>
    intro _
    obtain rfl := List.eq_nil_of_length_eq_zero h
    exact fun x hx => by simp [inS] at hx
  | succ n ih =>
    intro hs
    obtain ⟨ys, o, rfl⟩ : ∃ ys o, out = ys ++ [o] := by
      rcases List.eq_nil_or_concat out with rfl | ⟨ys, o, h2⟩
      · simp at h
      · exact ⟨ys, o, by simpa using h2⟩
    have hi := ih ys (by simpa using h) (fun x hx => hs x (by simp [hx]))
    rw [inS_snoc]
    intro x hx
    simp only [stS, List.mem_append] at hx
    rcases hx with hx | hx
    · split at hx
      · rcases List.mem_append.1 hx with hx | hx
        · exact hi x hx
        · simp at hx; subst hx; exact he
      · exact hi x hx
    · split at hx
      · cases hx
      · simp at hx; subst hx; exact hs x (by simp)
theorem puS_small {out : List En} {e : En} (h : SmallE out) (he : e.ky.size ≤ 70 ∧ e.vl.size ≤ 1000) : SmallE (puS out e) := by
  unfold puS
  split
  · exact inS_small he out h
  · intro x hx
    rcases List.mem_append.1 hx with hx | hx
    · exact inS_small he out h x hx
    · simp at hx; subst hx; exact he
theorem soS_small (es : List En) (hs : SmallE es) : SmallE (soS es) := by
  induction h : es.length generalizing es with
  | zero =>
    obtain rfl := List.eq_nil_of_length_eq_zero h
    exact fun x hx => by simp [soS] at hx
  | succ n ih =>
    obtain ⟨ys, o, rfl⟩ : ∃ ys o, es = ys ++ [o] := by
      rcases List.eq_nil_or_concat es with rfl | ⟨ys, o, h2⟩
      · simp at h
      · exact ⟨ys, o, by simpa using h2⟩
    rw [soS_snoc]
    exact puS_small (ih ys (fun x hx => hs x (by simp [hx])) (by simpa using h)) (hs o (by simp))
end Go.Proofs.Ytgkhjjnhikbdaaa
