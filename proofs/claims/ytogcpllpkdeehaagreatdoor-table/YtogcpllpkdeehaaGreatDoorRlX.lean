import Derived.Test.YtogcpllpkdeehaaGreatDoorRfY
namespace Go.Proofs.YtogcpllpkdeehaaGreatDoor
open Go.RowKit Go.Maps
set_option linter.unusedVariables false
set_option linter.unusedSimpArgs false

/-- What ReadFrame gives. -/
abbrev Fr := Option (Nat × List UInt8 × Nat)
def rfN : Fr → Nat
  | none => 0
  | some (_, _, n) => n
def rfB : Fr → ByteArray
  | none => ByteArray.empty
  | some (_, l, _) => ⟨l.toArray⟩
def rfK : Fr → Nat
  | none => 0
  | some (k, _, _) => k
/-- A frame of kind k. -/
def gd (k : Int) (f : Fr) : Bool := f.isSome && ((rfK f : Int) == k)
theorem rfV_eq (f : Fr) : rfV f = .agg #[.bool f.isSome, .int .i64 (rfK f : Nat), .string (rfB f), .int .i64 (rfN f : Nat)] := by
  cases f with
  | none => rfl
  | some q => rfl
/-- The page at which the next frame is looked for. -/
def nx (s : ByteArray) (p : Nat) : Nat := max (p + 1) (rfN (rf s p))
theorem nx_gt (s : ByteArray) (p : Nat) : p + 1 ≤ nx s p := Nat.le_max_left _ _
/-- What is found from page p on. -/
def frs (s : ByteArray) (p : Nat) : List Fr := if p * 64 < s.size then rf s p :: frs s (nx s p) else []
  termination_by s.size - p
  decreasing_by have := nx_gt s p; omega
theorem frs_more {s : ByteArray} {p : Nat} (h : p * 64 < s.size) : frs s p = rf s p :: frs s (nx s p) := by rw [frs, if_pos h]
theorem frs_end {s : ByteArray} {p : Nat} (h : ¬ p * 64 < s.size) : frs s p = [] := by rw [frs, if_neg h]
theorem frs_len (s : ByteArray) : ∀ d p, s.size - p ≤ d → (frs s p).length ≤ d := by
  intro d
  induction d with
  | zero => intro p h; rw [frs_end (by omega)]; exact Nat.le_refl _
  | succ d ih =>
    intro p h
    by_cases hp : p * 64 < s.size
    · rw [frs_more hp]
      have := nx_gt s p
      have := ih (nx s p) (by omega)
      simp only [List.length_cons]
      omega
    · rw [frs_end hp]
      exact Nat.zero_le _
theorem rf_next {s : ByteArray} {p k n : Nat} {l : List UInt8} (h : rf s p = some (k, l, n)) : p + 1 ≤ n ∧ n * 64 ≤ s.size := by
  unfold rf rfAt at h
  simp only [Int.toNat_natCast] at h
  split at h
  · split at h
    · rename_i h1 h2
      obtain ⟨-, -, h3, -⟩ := h2
      simp only [Option.some.injEq, Prod.mk.injEq] at h
      obtain ⟨-, -, rfl⟩ := h
      have e : s.data.toList.length = s.size := len_data s
      rw [e] at h3
      have : 1 ≤ pagesN (8 + word s.data.toList (p * 64) 0) := by unfold pagesN; omega
      omega
    · cases h
  · cases h
theorem nx_some {s : ByteArray} {p : Nat} (h : (rf s p).isSome = true) : nx s p = rfN (rf s p) ∧ rfN (rf s p) * 64 ≤ s.size := by
  unfold nx
  cases hr : rf s p with
  | none => rw [hr] at h; cases h
  | some q =>
    obtain ⟨k, l, n⟩ := q
    have := rf_next hr
    exact ⟨Nat.max_eq_right (by show p + 1 ≤ n; omega), this.2⟩
theorem nx_none {s : ByteArray} {p : Nat} (h : (rf s p).isSome = false) : nx s p = p + 1 := by
  unfold nx
  cases hr : rf s p with
  | none => rfl
  | some q => rw [hr] at h; cases h
theorem nx_le {s : ByteArray} {p : Nat} (h : p * 64 < s.size) : nx s p * 64 ≤ s.size + 63 := by
  cases hr : (rf s p).isSome with
  | true => have := nx_some hr; omega
  | false => have := nx_none hr; omega
/-- The page behind the last frame. -/
def lastN (pre : List Fr) : Nat := (pre.getLast?.map rfN).getD 0
theorem lastN_snoc (pre : List Fr) (f : Fr) : lastN (pre ++ [f]) = rfN f := by simp [lastN]
/-- The frames that ReadLog takes, and the texts that Salvage takes. -/
def rlL (s : ByteArray) (k : Int) : List Fr := (frs s 0).takeWhile (gd k)
def svL (s : ByteArray) (k : Int) : List ByteArray := ((frs s 0).filter (gd k)).map rfB
theorem rl_stop {s : ByteArray} {k : Int} {pre rest : List Fr} {f : Fr} (h : frs s 0 = pre ++ f :: rest) (hg : ∀ x ∈ pre, gd k x = true) (hf : gd k f = false) : rlL s k = pre := by
  unfold rlL
  rw [h, List.takeWhile_append_of_pos hg, List.takeWhile_cons, hf]
  simp
theorem rl_done {s : ByteArray} {k : Int} {pre : List Fr} (h : frs s 0 = pre) (hg : ∀ x ∈ pre, gd k x = true) : rlL s k = pre := by
  unfold rlL
  rw [h]
  have := List.takeWhile_append_of_pos (l₂ := []) hg
  simpa using this
theorem rl_len (s : ByteArray) (k : Int) : (rlL s k).length ≤ s.size := by
  have h1 := (List.takeWhile_sublist (gd k) (l := frs s 0)).length_le
  have h2 := frs_len s s.size 0 (by omega)
  exact Nat.le_trans h1 h2
theorem sv_len (s : ByteArray) (k : Int) : (svL s k).length ≤ s.size := by
  have h1 := List.length_filter_le (gd k) (frs s 0)
  have h2 := frs_len s s.size 0 (by omega)
  unfold svL
  rw [List.length_map]
  omega

/-- Block g has room for n texts, none of it frozen; the first k of the texts xs stand in it. -/
def RowS (w : World) (g n : Nat) (xs : List ByteArray) (k : Nat) : Prop :=
  ∃ cs : Array Value, w.heap[g]? = some (.cells cs 9 (0, 0)) ∧ n ≤ cs.size ∧ ∀ i, i < k → cs[i]? = some (.string (xs.getD i ByteArray.empty))
/-- A slice that the call made and that holds the texts xs. -/
def ResS (w : World) (base : Nat) (a : Option Addr) (xs : List ByteArray) : Prop := xs = [] ∨ ∃ g, a = some ⟨g, 0, none⟩ ∧ base ≤ g ∧ RowS w g xs.length xs xs.length
theorem RowS.block {w w' : World} {g n k : Nat} {xs : List ByteArray} (h : RowS w g n xs k) (hb : w'.heap[g]? = w.heap[g]?) : RowS w' g n xs k := by
  obtain ⟨cs, h1, h2, h3⟩ := h
  exact ⟨cs, hb.trans h1, h2, h3⟩
theorem RowS.lt {w : World} {g n k : Nat} {xs : List ByteArray} (h : RowS w g n xs k) : g < w.heap.size := by
  obtain ⟨cs, h1, _⟩ := h
  exact heap_lt h1
theorem RowS.at {w : World} {g n k i : Nat} {xs : List ByteArray} (h : RowS w g n xs k) (hi : i < k) : w.cell? ⟨g, i, none⟩ = some (.string (xs.getD i ByteArray.empty)) := by
  obtain ⟨cs, h1, _, h3⟩ := h
  simpa [World.cell?, h1] using h3 i hi
theorem ResS.kept {w w' : World} {base : Nat} {a : Option Addr} {xs : List ByteArray} (h : ResS w base a xs) (hb : ∀ k, base ≤ k → k < w.heap.size → w'.heap[k]? = w.heap[k]?) : ResS w' base a xs := by
  rcases h with h | ⟨g, rfl, hg, hr⟩
  · exact .inl h
  · exact .inr ⟨g, rfl, hg, hr.block (hb g hg hr.lt)⟩
theorem ResS.below {w w' : World} {base : Nat} {a : Option Addr} {xs : List ByteArray} (h : ResS w base a xs) (hb : Below w.heap.size w w') : ResS w' base a xs := h.kept (fun k _ hk => hb.block k hk)
def strL (xs : List ByteArray) : List Value := xs.map Value.string
theorem strL_snoc (xs : List ByteArray) (x : ByteArray) : strL (xs ++ [x]) = strL xs ++ [.string x] := by simp [strL]
theorem resS_of_owns {w : World} {B n : Nat} {v : Value} {xs : List ByteArray} (h : w.ownsRow B 9 1 v n (strL xs)) :
    n = xs.length ∧ ∃ a cap, v = .slice a xs.length cap ∧ ResS w B a xs := by
  obtain ⟨h1, h2⟩ := h
  have hn : n = xs.length := by simp only [strL, List.length_map] at h1; omega
  refine ⟨hn, ?_⟩
  subst hn
  rcases h2 with ⟨rfl, h0⟩ | ⟨g, cap, cur, rfl, hg, hb, hl, hm, hsz, htk⟩
  · exact ⟨none, 0, by rw [h0], .inl (List.length_eq_zero_iff.1 h0)⟩
  · refine ⟨some ⟨g, 0, none⟩, cap, rfl, .inr ⟨g, rfl, hg, cur, hb, by omega, fun i hi => ?_⟩⟩
    have e1 : (cur.toList.take (xs.length * 1))[i]? = (strL xs)[i]? := by rw [htk]
    rw [List.getElem?_take_of_lt (by omega)] at e1
    have e2 : (strL xs)[i]? = some (.string (xs.getD i ByteArray.empty)) := by simp [strL, List.getD, hi]
    rw [← e2, ← e1]
    simp
theorem ownsS_lit (w : World) (B : Nat) (hB : B ≤ w.heap.size) : (w.alloc (.cells #[] 9)).ownsRow B 9 1 (.slice (some ⟨w.heap.size, 0, none⟩) 0 0) 0 (strL []) :=
  ⟨rfl, .inr ⟨w.heap.size, 0, #[], rfl, hB, World.heap_alloc_new _ _, Nat.le_refl _, Nat.zero_le _, rfl, rfl⟩⟩
theorem str_info : (Tryz.prog.info? 9).map (fun i => (i.zero, i.size, i.bytes)) = some (some (.string ByteArray.empty), 1, 16) := by kernel_rfl
end Go.Proofs.YtogcpllpkdeehaaGreatDoor
namespace Go.Proofs.YtogcpllpkdeehaaGreatDoor
open Go.RowKit Go.Maps
set_option linter.unusedVariables false
set_option linter.unusedSimpArgs false

theorem cell_first1 (w : World) (x : Value) (t : TypeId) : ∀ j v, [x][j]? = some v → (w.alloc (.cells #[x] t)).cell? ((⟨w.heap.size, 0, none⟩ : Addr).add j) = some v := by
  intro j v hj
  rw [Go.WideShapes.add_plain]
  have hb : (w.alloc (.cells #[x] t)).heap[w.heap.size]? = some (.cells #[x] t (0, 0)) := World.heap_alloc_new _ _
  simp only [World.cell?, hb]
  match j, hj with
  | 0, hj => simpa using hj
theorem owns_lt {w : World} {B n size : Nat} {e : TypeId} {v : Value} {xs : List Value} (h : w.ownsRow B e size v n xs) : ∀ k, v.ownBlock = some k → k < w.heap.size := by
  obtain ⟨h1, h2⟩ := h
  intro k hk
  rcases h2 with ⟨rfl, -⟩ | ⟨g, cap, cur, rfl, hg, hb, hrest⟩
  · cases hk
  · cases hk
    exact heap_lt hb
theorem str_len (xs : List ByteArray) : (strL xs).length = xs.length := by simp [strL]

end Go.Proofs.YtogcpllpkdeehaaGreatDoor
