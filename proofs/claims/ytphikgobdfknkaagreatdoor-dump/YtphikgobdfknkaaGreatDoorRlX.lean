import Derived.Test.YtphikgobdfknkaaGreatDoorRfY
namespace Go.Proofs.YtphikgobdfknkaaGreatDoor
open Go.RowKit Go.Maps
set_option linter.unusedVariables false
set_option linter.unusedSimpArgs false

/-- What ReadFrame gives. -/
abbrev Fr := Option (Nat × List UInt8 × Nat)
def rfN : Fr → Nat
  | none => 0
  | some (_, _, n) => n
def rfB : Fr → ByteArray
  | none => ByteArray.empty
  | some (_, l, _) => ⟨l.toArray⟩
def rfK : Fr → Nat
  | none => 0
  | some (k, _, _) => k
/-- A frame of kind k. -/
def gd (k : Int) (f : Fr) : Bool := f.isSome && ((rfK f : Int) == k)
theorem rfV_eq (f : Fr) : rfV f = .agg #[.bool f.isSome, .int .i64 (rfK f : Nat), .string (rfB f), .int .i64 (rfN f : Nat)] := by
  cases f with
  | none => rfl
  | some q => rfl
/-- The page at which the next frame is looked for. -/
def nx (s : ByteArray) (p : Nat) : Nat := max (p + 1) (rfN (rf s p))
theorem nx_gt (s : ByteArray) (p : Nat) : p + 1 ≤ nx s p := Nat.le_max_left _ _
/-- What is found from page p on. -/
def frs (s : ByteArray) (p : Nat) : List Fr := if p * 64 < s.size then rf s p :: frs s (nx s p) else []
  termination_by s.size - p
  decreasing_by have := nx_gt s p; omega
theorem frs_more {s : ByteArray} {p : Nat} (h : p * 64 < s.size) : frs s p = rf s p :: frs s (nx s p) := by rw [frs, if_pos h]
theorem frs_end {s : ByteArray} {p : Nat} (h : ¬ p * 64 < s.size) : frs s p = [] := by rw [frs, if_neg h]
theorem frs_len (s : ByteArray) : ∀ d p, s.size - p ≤ d → (frs s p).length ≤ d := by
  intro d
  induction d with
  | zero => intro p h; rw [frs_end (by omega)]; exact Nat.le_refl _
  | succ d ih =>
    intro p h
    by_cases hp : p * 64 < s.size
    · rw [frs_more hp]
      have := nx_gt s p
      have := ih (nx s p) (by omega)
      simp only [List.length_cons]
      omega
    · rw [frs_end hp]
      exact Nat.zero_le _
theorem rf_next {s : ByteArray} {p k n : Nat} {l : List UInt8} (h : rf s p = some (k, l, n)) : p + 1 ≤ n ∧ n * 64 ≤ s.size := by
  unfold rf rfAt at h
  simp only [Int.toNat_natCast] at h
  split at h
  · split at h
    · rename_i h1 h2
      obtain ⟨-, -, h3, -⟩ := h2
      simp only [Option.some.injEq, Prod.mk.injEq] at h
      obtain ⟨-, -, rfl⟩ := h
      have e : s.data.toList.length = s.size := len_data s
      rw [e] at h3
      have : 1 ≤ pagesN (8 + word s.data.toList (p * 64) 0) := by unfold pagesN; omega
      omega
    · cases h
  · cases h
theorem nx_some {s : ByteArray} {p : Nat} (h : (rf s p).isSome = true) : nx s p = rfN (rf s p) ∧ rfN (rf s p) * 64 ≤ s.size := by
  unfold nx
  cases hr : rf s p with
  | none => rw [hr] at h; cases h
  | some q =>
    obtain ⟨k, l, n⟩ := q
    have := rf_next hr
    exact ⟨Nat.max_eq_right (by show p + 1 ≤ n; omega), this.2⟩
theorem nx_none {s : ByteArray} {p : Nat} (h : (rf s p).isSome = false) : nx s p = p + 1 := by
  unfold nx
  cases hr : rf s p with
  | none => rfl
  | some q => rw [hr] at h; cases h
theorem nx_le {s : ByteArray} {p : Nat} (h : p * 64 < s.size) : nx s p * 64 ≤ s.size + 63 := by
  cases hr : (rf s p).isSome with
  | true => have := nx_some hr; omega
  | false => have := nx_none hr; omega
/-- The page behind the last frame. -/
def lastN (pre : List Fr) : Nat := (pre.getLast?.map rfN).getD 0
theorem lastN_snoc (pre : List Fr) (f : Fr) : lastN (pre ++ [f]) = rfN f := by simp [lastN]
/-- The frames that ReadLog takes, and the texts that Salvage takes. -/
def rlL (s : ByteArray) (k : Int) : List Fr := (frs s 0).takeWhile (gd k)
def svL (s : ByteArray) (k : Int) : List ByteArray := ((frs s 0).filter (gd k)).map rfB
theorem rl_stop {s : ByteArray} {k : Int} {pre rest : List Fr} {f : Fr} (h : frs s 0 = pre ++ f :: rest) (hg : ∀ x ∈ pre, gd k x = true) (hf : gd k f = false) : rlL s k = pre := by
  unfold rlL
  rw [h, List.takeWhile_append_of_pos hg, List.takeWhile_cons, hf]
  simp
theorem rl_done {s : ByteArray} {k : Int} {pre : List Fr} (h : frs s 0 = pre) (hg : ∀ x ∈ pre, gd k x = true) : rlL s k = pre := by
  unfold rlL
  rw [h]
  have := List.takeWhile_append_of_pos (l₂ := []) hg
  simpa using this
theorem rl_len (s : ByteArray) (k : Int) : (rlL s k).length ≤ s.size := by
  have h1 := (List.takeWhile_sublist (gd k) (l := frs s 0)).length_le
  have h2 := frs_len s s.size 0 (by omega)
  exact Nat.le_trans h1 h2
theorem sv_len (s : ByteArray) (k : Int) : (svL s k).length ≤ s.size := by
  have h1 := List.length_filter_le (gd k) (frs s 0)
  have h2 := frs_len s s.size 0 (by omega)
  unfold svL
  rw [List.length_map]
  omega

/-- Block g has room for n texts, none of it frozen; the first k of the texts xs stand in it. -/
def RowS (w : World) (g n : Nat) (xs : List ByteArray) (k : Nat) : Prop :=
  ∃ cs : Array Value, w.heap[g]? = some (.cells cs 9 (0, 0)) ∧ n ≤ cs.size ∧ ∀ i, i < k → cs[i]? = some (.string (xs.getD i ByteArray.empty))
/-- A slice that the call made and that holds the texts xs. -/
def ResS (w : World) (base : Nat) (a : Option Addr) (xs : List ByteArray) : Prop := xs = [] ∨ ∃ g, a = some ⟨g, 0, none⟩ ∧ base ≤ g ∧ RowS w g xs.length xs xs.length
theorem RowS.block {w w' : World} {g n k : Nat} {xs : List ByteArray} (h : RowS w g n xs k) (hb : w'.heap[g]? = w.heap[g]?) : RowS w' g n xs k := by
  obtain ⟨cs, h1, h2, h3⟩ := h
  exact ⟨cs, hb.trans h1, h2, h3⟩
theorem RowS.lt {w : World} {g n k : Nat} {xs : List ByteArray} (h : RowS w g n xs k) : g < w.heap.size := by
  obtain ⟨cs, h1, _⟩ := h
  exact heap_lt h1
theorem RowS.at {w : World} {g n k i : Nat} {xs : List ByteArray} (h : RowS w g n xs k) (hi : i < k) : w.cell? ⟨g, i, none⟩ = some (.string (xs.getD i ByteArray.empty)) := by
  obtain ⟨cs, h1, _, h3⟩ := h
  simpa [World.cell?, h1] using h3 i hi
theorem ResS.kept {w w' : World} {base : Nat} {a : Option Addr} {xs : List ByteArray} (h : ResS w base a xs) (hb : ∀ k, base ≤ k → k < w.heap.size → w'.heap[k]? = w.heap[k]?) : ResS w' base a xs := by
  rcases h with h | ⟨g, rfl, hg, hr⟩
  · exact .inl h
  · exact .inr ⟨g, rfl, hg, hr.block (hb g hg hr.lt)⟩
theorem ResS.below {w w' : World} {base : Nat} {a : Option Addr} {xs : List ByteArray} (h : ResS w base a xs) (hb : Below w.heap.size w w') : ResS w' base a xs := h.kept (fun k _ hk => hb.block k hk)
def strL (xs : List ByteArray) : List Value := xs.map Value.string
theorem strL_snoc (xs : List ByteArray) (x : ByteArray) : strL (xs ++ [x]) = strL xs ++ [.string x] := by simp [strL]
theorem resS_of_owns {w : World} {B n : Nat} {v : Value} {xs : List ByteArray} (h : w.ownsRow B 9 1 v n (strL xs)) :
    n = xs.length ∧ ∃ a cap, v = .slice a xs.length cap ∧ ResS w B a xs := by
  obtain ⟨h1, h2⟩ := h
  have hn : n = xs.length := by simp only [strL, List.length_map] at h1; omega
  refine ⟨hn, ?_⟩
  subst hn
  rcases h2 with ⟨rfl, h0⟩ | ⟨g, cap, cur, rfl, hg, hb, hl, hm, hsz, htk⟩
  · exact ⟨none, 0, by rw [h0], .inl (List.length_eq_zero_iff.1 h0)⟩
  · refine ⟨some ⟨g, 0, none⟩, cap, rfl, .inr ⟨g, rfl, hg, cur, hb, by omega, fun i hi => ?_⟩⟩
    have e1 : (cur.toList.take (xs.length * 1))[i]? = (strL xs)[i]? := by rw [htk]
    rw [List.getElem?_take_of_lt (by omega)] at e1
    have e2 : (strL xs)[i]? = some (.string (xs.getD i ByteArray.empty)) := by simp [strL, List.getD, hi]
    rw [← e2, ← e1]
    simp
theorem ownsS_lit (w : World) (B : Nat) (hB : B ≤ w.heap.size) : (w.alloc (.cells #[] 9)).ownsRow B 9 1 (.slice (some ⟨w.heap.size, 0, none⟩) 0 0) 0 (strL []) :=
  ⟨rfl, .inr ⟨w.heap.size, 0, #[], rfl, hB, World.heap_alloc_new _ _, Nat.le_refl _, Nat.zero_le _, rfl, rfl⟩⟩
theorem str_info : (Tryz.prog.info? 9).map (fun i => (i.zero, i.size, i.bytes)) = some (some (.string ByteArray.empty), 1, 16) := by kernel_rfl
end Go.Proofs.YtphikgobdfknkaaGreatDoor
namespace Go.Proofs.YtphikgobdfknkaaGreatDoor
open Go.RowKit Go.Maps
set_option linter.unusedVariables false
set_option linter.unusedSimpArgs false

theorem cell_first1R (w : World) (x : Value) (t : TypeId) : ∀ j v, [x][j]? = some v → (w.alloc (.cells #[x] t)).cell? ((⟨w.heap.size, 0, none⟩ : Addr).add j) = some v := by
  intro j v hj
  rw [Go.WideShapes.add_plain]
  have hb : (w.alloc (.cells #[x] t)).heap[w.heap.size]? = some (.cells #[x] t (0, 0)) := World.heap_alloc_new _ _
  simp only [World.cell?, hb]
  match j, hj with
  | 0, hj => simpa using hj
theorem owns_ltR {w : World} {B n size : Nat} {e : TypeId} {v : Value} {xs : List Value} (h : w.ownsRow B e size v n xs) : ∀ k, v.ownBlock = some k → k < w.heap.size := by
  obtain ⟨h1, h2⟩ := h
  intro k hk
  rcases h2 with ⟨rfl, -⟩ | ⟨g, cap, cur, rfl, hg, hb, hrest⟩
  · cases hk
  · cases hk
    exact heap_lt hb
theorem str_len (xs : List ByteArray) : (strL xs).length = xs.length := by simp [strL]

set_option maxRecDepth 100000 in
set_option maxHeartbeats 1000000 in
theorem specLog_any (s : ByteArray) (k : Int) (w : World) (hs : s.size ≤ 1048576) :
    Calls Tryz.prog 29 #[.string s, .int .i64 k] w fun e w' => ∃ a cap, e = .returned (.tuple #[.slice a (rlL s k).length cap, .int .i64 (lastN (rlL s k) : Nat)]) ∧ ResS w' w.heap.size a ((rlL s k).map rfB) ∧ Below w.heap.size w w' := by
  obtain ⟨i0, hi, hz0, hz1, hz2⟩ := info_parts str_info
  have HST : Hid (∀ pre f rest, frs s 0 = pre ++ f :: rest → (∀ x ∈ pre, gd k x = true) → gd k f = false → rlL s k = pre) := fun pre f rest h1 h2 h3 => rl_stop h1 h2 h3
  have HDN : Hid (∀ pre, frs s 0 = pre → (∀ x ∈ pre, gd k x = true) → rlL s k = pre) := fun pre h1 h2 => rl_done h1 h2
  have hFL := frs_len s s.size 0 (by omega)
  generalize rlL s k = RL at *
  have HF0 : Hid (frs s 0 = frs s 0) := rfl
  obtain ⟨A, HA⟩ : ∃ A, Hid (frs s 0 = A) := ⟨_, rfl⟩
  rw [HA.out] at hFL HST HDN
  clear HF0
  go_enter Tryz.func29, Tryz.ntmps29
  go_wp2_with fail
  go_loopw [6, 7] (fun v i wr => ∃ (pre : List Fr) (p : Nat), i = .int .i64 p ∧ Hid (A = pre ++ frs s p) ∧ Hid (∀ x ∈ pre, gd k x = true) ∧ Hid (lastN pre = p) ∧ p * 64 ≤ s.size ∧ wr.ownsRow w.heap.size 9 1 v pre.length (strL (pre.map rfB)) ∧ Below w.heap.size w wr) (fun _ i _ => s.size - (intOf i).toNat)
  case atStart => exact ⟨[], 0, rfl, HA.out.symm, (fun x hx => by cases hx), rfl, Nat.zero_le _, ownsS_lit _ _ (Nat.le_refl _), (Below.refl _ _).alloc (Nat.le_refl _) _⟩
  case round =>
    obtain ⟨pre, p, rfl, hfr, hg, hl, hp64, hown, hb⟩ := hrel
    have hbs := hb.size
    by_cases hp : p * 64 < s.size
    · have hp' : (p : Int) * 64 < s.size := by omega
      have hm := frs_more hp
      have hN : Hid ((rf s p).isSome = true → nx s p = rfN (rf s p) ∧ rfN (rf s p) * 64 ≤ s.size ∧ p + 1 ≤ nx s p) := fun h => ⟨(nx_some h).1, (nx_some h).2, nx_gt s p⟩
      have HR : Hid (∀ w, Calls Tryz.prog 44 #[.string s, .int .i64 p] w fun e w' => e = .returned (rfV (rf s p)) ∧ Below w.heap.size w w') := fun w => specRead_any s p w hs
      have hfr2 : Hid (A = pre ++ rf s p :: frs s (nx s p)) := by show _ = _; rw [← hm]; exact hfr.out
      have hlen : pre.length < s.size := by
        have := congrArg List.length hfr2.out
        simp only [List.length_append, List.length_cons] at this
        omega
      clear hm hfr
      generalize rf s p = f at *
      obtain ⟨rest, hrest⟩ : ∃ rest, Hid (rest = frs s (nx s p)) := ⟨_, rfl⟩
      rw [← hrest.out] at hfr2
      go_wp2_with fail
      refine (HR.out _).mono ?_
      rintro e w1 ⟨rfl, hb1⟩
      rw [rfV_eq]
      have hown1 := owns_belowR hown hb1
      have hb01 := hb.trans (hb1.mono hbs)
      have hs1 := hb01.size
      have hx1 : (w1.alloc (.cells #[.bool f.isSome, .int .i64 (rfK f : Nat), .string (rfB f), .int .i64 (rfN f : Nat)] 107)).heap[w1.heap.size]? = some (.cells #[.bool f.isSome, .int .i64 (rfK f : Nat), .string (rfB f), .int .i64 (rfN f : Nat)] 107 (0, 0)) := World.heap_alloc_new _ _
      have hb1a : Below w.heap.size w (w1.alloc (.cells #[.bool f.isSome, .int .i64 (rfK f : Nat), .string (rfB f), .int .i64 (rfN f : Nat)] 107)) := hb01.alloc hs1 _
      have hown1a : Hid (World.ownsRow (w1.alloc (.cells #[.bool f.isSome, .int .i64 (rfK f : Nat), .string (rfB f), .int .i64 (rfN f : Nat)] 107)) w.heap.size 9 1 _ pre.length (strL (pre.map rfB))) := hown1.alloc _
      have HBR : Hid (Below w1.heap.size w1 (w1.alloc (.cells #[.bool f.isSome, .int .i64 (rfK f : Nat), .string (rfB f), .int .i64 (rfN f : Nat)] 107))) := (Below.refl _ _).alloc (Nat.le_refl _) _
      have HC : Hid (∀ j u, [Value.string (rfB f)][j]? = some u → ((w1.alloc (.cells #[.bool f.isSome, .int .i64 (rfK f : Nat), .string (rfB f), .int .i64 (rfN f : Nat)] 107)).alloc (.cells #[.string (rfB f)] 9)).cell? ((⟨w1.heap.size + 1, 0, none⟩ : Addr).add j) = some u) := by
        have h := cell_first1R (w1.alloc (.cells #[.bool f.isSome, .int .i64 (rfK f : Nat), .string (rfB f), .int .i64 (rfN f : Nat)] 107)) (.string (rfB f)) 9
        rw [World.size_alloc] at h
        exact h
      have HBs : Hid (w.heap.size ≤ ((w1.alloc (.cells #[.bool f.isSome, .int .i64 (rfK f : Nat), .string (rfB f), .int .i64 (rfN f : Nat)] 107)).alloc (.cells #[.string (rfB f)] 9)).heap.size) := by show _ ≤ _; simp; omega
      obtain ⟨⟨x0, x1, x2, x3⟩, -⟩ := four_cellsR hx1
      have HLT : Hid (∀ k, Value.ownBlock _ = some k → k < w1.heap.size) := owns_ltR hown1
      clear hx1 hown hb hb01 hown1
      cases hok : f.isSome with
      | false =>
        have hRL : RL = pre := HST.out pre f rest hfr2.out hg.out (by unfold gd; rw [hok]; rfl)
        rw [hok] at x0 x1 x2 x3
        rw [hok] at hb1a hown1a
        subst hRL
        obtain ⟨-, a, cap, rfl, hres⟩ := resS_of_owns hown1a.out
        have hq := hl.out
        clear hown1a HC HBs
        go_wp2_with fail
        go_ret2
        first | exact ⟨a, cap, by first | rfl | (rw [hq]; rfl), hres, hb1a⟩ | exact ⟨a, ⟨cap, by first | rfl | (rw [hq]; rfl)⟩, hres, hb1a⟩
      | true =>
        have hnx := hN.out hok
        have hwr : wrap64 ((rfN f : Nat) : Int) = (rfN f : Nat) := by unfold wrap64; omega
        have hfK : ((rfK f : Nat) : Int) = k ∨ ((rfK f : Nat) : Int) ≠ k := by omega
        rw [hok] at x0 x1 x2 x3
        rw [hok] at hb1a hown1a HC HBs
        by_cases hk : ((rfK f : Nat) : Int) = k
        · have hne : (((rfK f : Nat) : Int) != k) = false := by rw [hk]; simp
          have hgd : Hid (gd k f = true) := by show _ = _; unfold gd; rw [hok, hk]; simp
          have hk' := hd hk
          clear hk
          have HM : Hid (s.size - rfN f < s.size - p) := Nat.sub_lt_sub_left (Nat.lt_of_le_of_lt (Nat.le_mul_of_pos_right _ (by decide)) hp) (hnx.1 ▸ hnx.2.2)
          have x3a : Hid (World.cell? ((w1.alloc (.cells #[.bool true, .int .i64 (rfK f : Nat), .string (rfB f), .int .i64 (rfN f : Nat)] 107)).alloc (.cells #[.string (rfB f)] 9)) ⟨w1.heap.size, 3, none⟩ = some (.int .i64 (rfN f : Nat))) := (World.grownBy_alloc _ _ none).cell x3 (by simp)
          have hnn : Hid (A = (pre ++ [f]) ++ frs s (rfN f)) := by show _ = _; rw [hfr2.out, hrest.out, hnx.1]; simp
          go_wp2_with (at_builtin; refine wpList_append_own _ rfl _ _ 63 rfl w.heap.size 9 i0 _ 1 16 Tryz.underlying63 hi hz0 hz1 hz2 rfl (by decide) _ _ _ rfl (hown1a.out.alloc _) ⟨w1.heap.size + 1, 0, none⟩ 1 1 [.string (rfB f)] rfl rfl HC.out (fun x hx => by simp at hx; subst hx; rfl) (by unfold maxLen; omega) (by omega) HBs.out ?_; intro v' w8 hown8 hgrow hnil; have x3' := hgrow.cell x3a.out (fun h => absurd (HLT.out _ h.symm) (Nat.lt_irrefl _)))
          refine ⟨⟨pre ++ [f], rfN f, rfl, hnn, ?_, lastN_snoc pre f, hnx.2.1, ?_, ?_⟩, ?_⟩
          · intro x hx
            rcases List.mem_append.1 hx with h | h
            · exact hg.out x h
            · rw [List.mem_singleton.1 h]; exact hgd.out
          · rw [List.map_append, List.length_append]
            exact (strL_snoc (pre.map rfB) (rfB f)) ▸ hown8
          · exact (hb1a.alloc (by have := HBs.out; simp at this; simp; omega) _).grown hgrow HBs.out (owns_base hown1a.out)
          · simp only [intOf, Int.toNat_natCast]; exact HM.out
        · have hne : (((rfK f : Nat) : Int) != k) = true := by rw [bne_iff_ne]; exact hk
          have hRL : RL = pre := HST.out pre f rest hfr2.out hg.out (by unfold gd; rw [hok]; simp; exact hk)
          subst hRL
          obtain ⟨-, a, cap, rfl, hres⟩ := resS_of_owns hown1a.out
          have hq := hl.out
          clear hown1a HC HBs
          go_wp2_with fail
          go_ret2
          first | exact ⟨a, cap, by first | rfl | (rw [hq]; rfl), hres, hb1a⟩ | exact ⟨a, ⟨cap, by first | rfl | (rw [hq]; rfl)⟩, hres, hb1a⟩
    · have hp' : ¬ (p : Int) * 64 < s.size := by omega
      have hRL : RL = pre := HDN.out pre (by rw [hfr.out, frs_end hp, List.append_nil]) hg.out
      subst hRL
      obtain ⟨-, a, cap, rfl, hres⟩ := resS_of_owns hown
      have hq := hl.out
      clear hown
      go_wp2_with fail
      go_ret2
      first | exact ⟨a, cap, by first | rfl | (rw [hq]; rfl), hres, hb⟩ | exact ⟨a, ⟨cap, by first | rfl | (rw [hq]; rfl)⟩, hres, hb⟩
end Go.Proofs.YtphikgobdfknkaaGreatDoor
