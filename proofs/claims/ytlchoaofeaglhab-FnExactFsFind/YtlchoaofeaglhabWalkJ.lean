import Derived.Test.YtlchoaofeaglhabWalkH
namespace Go.Proofs.Ytlchoaofeaglhab
open Go.RowKit Go.Maps
set_option linter.unusedVariables false
set_option linter.unusedSimpArgs false

theorem fm_at {xs : List Fl} (h : Rise xs) {i : Nat} (hi : i < xs.length) : fm xs (xs.getD i fl0).nm.data.toList = some ((xs.getD i fl0).dt, (xs.getD i fl0).sy) := by
  have key : ∀ k, i < k → k ≤ xs.length → fm (xs.take k) (xs.getD i fl0).nm.data.toList = some ((xs.getD i fl0).dt, (xs.getD i fl0).sy) := by
    intro k
    induction k with
    | zero => intro h0; omega
    | succ k ih =>
      intro h1 h2
      rw [take_snoc xs k (by omega), fm_snoc]
      unfold upd
      by_cases hik : i = k
      · subst hik
        rw [if_pos rfl]
      · rw [if_neg (h.ne (show i < k by omega) (by omega))]
        exact ih (by omega) (by omega)
  have := key xs.length hi (Nat.le_refl _)
  rwa [List.take_length] at this

theorem toList_ne {a b : ByteArray} (h : (a.toList == b.toList) = false) : a.data.toList ≠ b.data.toList := by
  rw [ByteArray.toList_eq, ByteArray.toList_eq] at h
  simpa using h
theorem toList_eq' {a b : ByteArray} (h : (a.toList == b.toList) = true) : a = b := by
  rw [ByteArray.toList_eq, ByteArray.toList_eq] at h
  exact ByteArray.ext (Array.toList_inj.1 (by simpa using h))

/-- r is the place of the file s in the list, -1 if there is none. -/
def AtRel (xs : List Fl) (s : ByteArray) (r : Int) : Prop :=
  (r = -1 ∧ ∀ i, i < xs.length → (xs.getD i fl0).nm.data.toList ≠ s.data.toList) ∨ (∃ i : Nat, i < xs.length ∧ r = i ∧ (xs.getD i fl0).nm = s)

set_option maxHeartbeats 400000 in
theorem l1At_any (a : Option Addr) (cap : Nat) (xs : List Fl) (q fu : Int) (s : ByteArray) (w : World) (hx : Lie w a xs) (hlen : xs.length ≤ 1048576) :
    Calls Try.prog 53 #[.agg #[.slice a xs.length cap, .int .i64 q, .int .i64 fu], .string s] w fun e w' =>
      (∃ r : Int, e = .returned (.int .i64 r) ∧ AtRel xs s r) ∧ Below w.heap.size w w' := by
  have hb0 : Below w.heap.size w (w.alloc (.cells #[.slice a xs.length cap, .int .i64 q, .int .i64 fu] 36)) := (Below.refl _ _).alloc (Nat.le_refl _) _
  go_enter Try.func53, Try.ntmps53
  go_wp2
  go_loop [5] (fun i => ∃ k : Nat, k ≤ xs.length ∧ i = .int .i64 k ∧ Hid (∀ j, j < k → (xs.getD j fl0).nm.data.toList ≠ s.data.toList)) (fun i => xs.length - (intOf i).toNat)
  case atStart => exact ⟨0, Nat.zero_le _, rfl, fun j hj => absurd hj (Nat.not_lt_zero _)⟩
  case round =>
    obtain ⟨k, hk, rfl, HA⟩ := hrel
    by_cases hlt : k < xs.length
    · obtain ⟨b, off, rfl, hbl, c0, c1, c2⟩ := hx.at hlt
      have HK : Hid ((xs.getD k fl0).nm = (xs.getD k fl0).nm) := rfl
      generalize hf : xs.getD k fl0 = f at *
      have HF : Hid (xs.getD k fl0 = f) := hf
      clear hf HK
      cases he : (f.nm.toList == s.toList) with
      | true =>
        have HR : AtRel xs s k := .inr ⟨k, hlt, rfl, by rw [HF.out]; exact toList_eq' he⟩
        go_wp2
        go_ret
        exact ⟨⟨_, rfl, HR⟩, hb0⟩
      | false =>
        have HA' : Hid (∀ j, j < k + 1 → (xs.getD j fl0).nm.data.toList ≠ s.data.toList) := by
          intro j hj
          by_cases hjk : j = k
          · rw [hjk, HF.out]; exact toList_ne he
          · exact HA.out j (by omega)
        go_wp2
        exact ⟨⟨k + 1, by omega, by go_num, HA'⟩, by simp [intOf]; omega⟩
    · obtain rfl : k = xs.length := by omega
      have HR : AtRel xs s (-1) := .inl ⟨rfl, HA.out⟩
      go_wp2
      go_ret
      exact ⟨⟨-1, rfl, HR⟩, hb0⟩

set_option maxHeartbeats 400000 in
theorem l1Data_any (a : Option Addr) (cap : Nat) (xs : List Fl) (q fu : Int) (s : ByteArray) (w : World) (hx : Lie w a xs) (hlen : xs.length ≤ 1048576) (hr : Rise xs) :
    Calls Try.prog 40 #[.agg #[.slice a xs.length cap, .int .i64 q, .int .i64 fu], .string s] w fun e w' =>
      e = .returned (.tuple #[.string ((fm xs s.data.toList).getD (ByteArray.empty, 0)).1, .bool (fm xs s.data.toList).isSome]) ∧ Below w.heap.size w w' := by
  have hb0 : Below w.heap.size w (w.alloc (.cells #[.slice a xs.length cap, .int .i64 q, .int .i64 fu] 36)) := (Below.refl _ _).alloc (Nat.le_refl _) _
  generalize hfm : fm xs s.data.toList = o
  have HF : Hid (fm xs s.data.toList = o) := hfm
  clear hfm
  go_enter Try.func40, Try.ntmps40
  go_wp2_with fail
  refine (l1At_any a cap xs q fu s _ (hx.below hb0) hlen).mono ?_
  rintro e w1 ⟨⟨r, rfl, hr1⟩, hb1⟩
  have hbb := hb0.trans (hb1.mono hb0.size)
  rcases hr1 with ⟨rfl, hall⟩ | ⟨i, hi, rfl, hnm⟩
  · have HO : Hid (o = none) := HF.out.symm.trans (fm_none hall)
    clear hall
    go_wp2
    go_ret2
    rw [HO.out]
    exact ⟨rfl, hbb⟩
  · have hfm := fm_at hr hi
    rw [hnm] at hfm
    have HO : Hid (o = some ((xs.getD i fl0).dt, (xs.getD i fl0).sy)) := HF.out.symm.trans hfm
    clear hfm hnm
    obtain ⟨b, off, rfl, hbl, c0, c1, c2⟩ := (hx.below hbb).at hi
    have p0 : w1.cell? ⟨w.heap.size, 0, none⟩ = some (.slice (some ⟨b, off, none⟩) xs.length cap) := (hb1.cell (p := ⟨w.heap.size, 0, none⟩) (by simp)).trans (by simp)
    generalize xs.getD i fl0 = f at *
    go_wp2
    go_ret2
    rw [HO.out]
    exact ⟨rfl, hbb⟩

/-- What FsFind answers. -/
def findV (xs : List Fl) (q fu : Int) (s : ByteArray) : ByteArray × Bool :=
  if vldB xs q fu = true then (((fm xs s.data.toList).getD (ByteArray.empty, 0)).1, (fm xs s.data.toList).isSome) else (ByteArray.empty, false)

set_option maxHeartbeats 400000 in
theorem specFind_any (a : Option Addr) (cap : Nat) (xs : List Fl) (q fu : Int) (s : ByteArray) (w : World) (hx : Lie w a xs) (hf : Fits xs) (hlen : xs.length ≤ 1048576) (hd : datas xs ≤ 1048576) :
    Calls Try.prog 25 #[.agg #[.slice a xs.length cap, .int .i64 q, .int .i64 fu], .string s] w fun e w' =>
      e = .returned (.tuple #[.string (findV xs q fu s).1, .bool (findV xs q fu s).2]) ∧ Below w.heap.size w w' := by
  have hb0 : Below w.heap.size w (w.alloc (.cells #[.slice a xs.length cap, .int .i64 q, .int .i64 fu] 36)) := (Below.refl _ _).alloc (Nat.le_refl _) _
  cases hv : vldB xs q fu with
  | false =>
    have : findV xs q fu s = (ByteArray.empty, false) := by simp [findV, hv]
    rw [this]
    clear this
    go_enter Try.func25, Try.ntmps25
    go_wp2_with fail
    refine (specValid_any a cap xs q fu _ (hx.below hb0) hf hlen hd).mono ?_
    rintro e w1 ⟨rfl, hb1⟩
    have hbb := hb0.trans (hb1.mono hb0.size)
    rw [hv]
    go_wp2
    go_ret2
    exact ⟨rfl, hbb⟩
  | true =>
    have : findV xs q fu s = (((fm xs s.data.toList).getD (ByteArray.empty, 0)).1, (fm xs s.data.toList).isSome) := by simp [findV, hv]
    rw [this]
    clear this
    have hr := rise_of_ok (vld_head hv).2.1
    go_enter Try.func25, Try.ntmps25
    go_wp2_with fail
    refine (specValid_any a cap xs q fu _ (hx.below hb0) hf hlen hd).mono ?_
    rintro e w1 ⟨rfl, hb1⟩
    have hbb := hb0.trans (hb1.mono hb0.size)
    have p0 : w1.cell? ⟨w.heap.size, 0, none⟩ = some (.slice a xs.length cap) := (hb1.cell (p := ⟨w.heap.size, 0, none⟩) (by simp)).trans (by simp)
    have p1 : w1.cell? ⟨w.heap.size, 1, none⟩ = some (.int .i64 q) := (hb1.cell (p := ⟨w.heap.size, 1, none⟩) (by simp)).trans (by simp)
    have p2 : w1.cell? ⟨w.heap.size, 2, none⟩ = some (.int .i64 fu) := (hb1.cell (p := ⟨w.heap.size, 2, none⟩) (by simp)).trans (by simp)
    rw [hv]
    go_wp2_with fail
    refine (l1Data_any a cap xs q fu s _ (hx.below hbb) hlen hr).mono ?_
    rintro e w2 ⟨rfl, hb2⟩
    go_wp2
    go_ret2
    exact ⟨rfl, hbb.trans (hb2.mono hbb.size)⟩
end Go.Proofs.Ytlchoaofeaglhab
