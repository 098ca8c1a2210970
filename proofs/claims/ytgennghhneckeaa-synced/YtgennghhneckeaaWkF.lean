import Derived.Test.YtgennghhneckeaaIter
namespace Go.Proofs.Ytgennghhneckeaa
open Go.RowKit Go.Maps
set_option linter.unusedVariables false
set_option linter.unusedSimpArgs false

theorem fm_at {xs : List Fl} (h : Rise xs) {i : Nat} (hi : i < xs.length) : fm xs (xs.getD i fl0).nm.data.toList = some ((xs.getD i fl0).dt, (xs.getD i fl0).sy) := by
  have key : ∀ k, i < k → k ≤ xs.length → fm (xs.take k) (xs.getD i fl0).nm.data.toList = some ((xs.getD i fl0).dt, (xs.getD i fl0).sy) := by
    intro k
    induction k with
    | zero => intro h0; omega
    | succ k ih =>
      intro h1 h2
      rw [take_snoc xs k (by omega), fm_snoc]
      unfold upd
      by_cases hik : i = k
      · subst hik
        rw [if_pos rfl]
      · rw [if_neg (h.ne (show i < k by omega) (by omega))]
        exact ih (by omega) (by omega)
  have := key xs.length hi (Nat.le_refl _)
  rwa [List.take_length] at this

theorem toList_ne {a b : ByteArray} (h : (a.toList == b.toList) = false) : a.data.toList ≠ b.data.toList := by
  rw [ByteArray.toList_eq, ByteArray.toList_eq] at h
  simpa using h
theorem toList_eq' {a b : ByteArray} (h : (a.toList == b.toList) = true) : a = b := by
  rw [ByteArray.toList_eq, ByteArray.toList_eq] at h
  exact ByteArray.ext (Array.toList_inj.1 (by simpa using h))

/-- r is the place of the file s in the list, -1 if there is none. -/
def AtRel (xs : List Fl) (s : ByteArray) (r : Int) : Prop :=
  (r = -1 ∧ ∀ i, i < xs.length → (xs.getD i fl0).nm.data.toList ≠ s.data.toList) ∨ (∃ i : Nat, i < xs.length ∧ r = i ∧ (xs.getD i fl0).nm = s)

set_option maxHeartbeats 400000 in
theorem l1At_any (a : Option Addr) (cap : Nat) (xs : List Fl) (q fu : Int) (s : ByteArray) (w : World) (hx : Lie w a xs) (hlen : xs.length ≤ 1048576) :
    Calls Try.prog 26 #[.agg #[.slice a xs.length cap, .int .i64 q, .int .i64 fu], .string s] w fun e w' =>
      (∃ r : Int, e = .returned (.int .i64 r) ∧ AtRel xs s r) ∧ Below w.heap.size w w' := by
  have hb0 : Below w.heap.size w (w.alloc (.cells #[.slice a xs.length cap, .int .i64 q, .int .i64 fu] 25)) := (Below.refl _ _).alloc (Nat.le_refl _) _
  go_enter Try.func26, Try.ntmps26
  go_wp2
  go_loop [5] (fun i => ∃ k : Nat, k ≤ xs.length ∧ i = .int .i64 k ∧ Hid (∀ j, j < k → (xs.getD j fl0).nm.data.toList ≠ s.data.toList)) (fun i => xs.length - (intOf i).toNat)
  case atStart => exact ⟨0, Nat.zero_le _, rfl, fun j hj => absurd hj (Nat.not_lt_zero _)⟩
  case round =>
    obtain ⟨k, hk, rfl, HA⟩ := hrel
    by_cases hlt : k < xs.length
    · obtain ⟨b, off, rfl, hbl, c0, c1, c2⟩ := hx.at hlt
      have HK : Hid ((xs.getD k fl0).nm = (xs.getD k fl0).nm) := rfl
      generalize hf : xs.getD k fl0 = f at *
      have HF : Hid (xs.getD k fl0 = f) := hf
      clear hf HK
      cases he : (f.nm.toList == s.toList) with
      | true =>
        have HR : AtRel xs s k := .inr ⟨k, hlt, rfl, by rw [HF.out]; exact toList_eq' he⟩
        go_wp2
        go_ret
        exact ⟨⟨_, rfl, HR⟩, hb0⟩
      | false =>
        have HA' : Hid (∀ j, j < k + 1 → (xs.getD j fl0).nm.data.toList ≠ s.data.toList) := by
          intro j hj
          by_cases hjk : j = k
          · rw [hjk, HF.out]; exact toList_ne he
          · exact HA.out j (by omega)
        go_wp2
        exact ⟨⟨k + 1, by omega, by go_num, HA'⟩, by simp [intOf]; omega⟩
    · obtain rfl : k = xs.length := by omega
      have HR : AtRel xs s (-1) := .inl ⟨rfl, HA.out⟩
      go_wp2
      go_ret
      exact ⟨⟨-1, rfl, HR⟩, hb0⟩

end Go.Proofs.Ytgennghhneckeaa
namespace Go.Proofs.Ytgennghhneckeaa
open Go.RowKit Go.Maps
set_option linter.unusedVariables false
set_option linter.unusedSimpArgs false

/-- What FsFind answers. -/
def findV (xs : List Fl) (q fu : Int) (s : ByteArray) : ByteArray × Bool :=
  if vldB xs q fu = true then (((fm xs s.data.toList).getD (ByteArray.empty, 0)).1, (fm xs s.data.toList).isSome) else (ByteArray.empty, false)

end Go.Proofs.Ytgennghhneckeaa
