
import Derived.Test.YtfbmplecmaebbacDoorRlP
namespace Go.Proofs.YtfbmplecmaebbacDoor
open Go.RowKit Go.Maps Go.Shelf
attribute [local go_sem] Oper.semAt_some
set_option linter.unusedVariables false
set_option linter.unusedSimpArgs false

theorem payloads_in (F : Fence) (n : Nat) (h5 : F.fn 56) (hro : F.round = none) (s : ByteArray) (k : Int) (w : World) :
    CallsIn F n Tryd.prog 56 #[.string s, .int .i64 k] w fun e w' => e = .returned (.func (.func 77) #[] #[.pointer (some ⟨w.heap.size, 0, none⟩), .pointer (some ⟨w.heap.size + 1, 0, none⟩)]) ∧ w' = (w.alloc (.cells #[.string s] 9)).alloc (.cells #[.int .i64 k] 3) := by
  refine callsIn_of_wp Tryd.func56 rfl h5 ?_ hro
  simp only [Tryd.ntmps56, List.size_toArray, List.length_cons, List.length_nil, Nat.reduceAdd, Nat.reduceSub, Array.replicate_succ, Array.replicate_zero, List.push_toArray, List.append_toArray, List.nil_append, List.cons_append]
  gi_wp2
  go_ret
  exact ⟨rfl, rfl⟩

/-- The boxes of Salvage. -/
structure SvB (n0 : Nat) (k : Int) (pre : List ByteArray) (v : Value) (W : World) : Prop where
  hv : W.heap[n0 + 1]? = some (.cells #[v] 39 (0, 0))
  hk : W.heap[n0 + 3]? = some (.cells #[.int .i64 k] 3 (0, 0))
  hrow : W.ownsRow n0 9 1 v pre.length (strL pre)
theorem SvB.blocks {n0 : Nat} {k : Int} {pre : List ByteArray} {v : Value} {W W' : World} (h : SvB n0 k pre v W) (hb : ∀ (g : Nat) (o : Obj), W.heap[g]? = some o → o.isCells = true → W'.heap[g]? = some o) : SvB n0 k pre v W' :=
  ⟨hb _ _ h.hv rfl, hb _ _ h.hk rfl, owns_blocks h.hrow hb⟩
def SvI (n0 : Nat) (k : Int) (w : World) (pre : List ByteArray) (W : World) : Prop := (∃ v, SvB n0 k pre v W) ∧ Below n0 w W
theorem svI_own (n0 : Nat) (k : Int) (B : Nat) (w : World) (hn : n0 ≤ w.heap.size) (hB : n0 ≤ B) : OwnFrom B (SvI n0 k w) :=
  OwnFrom.and (Own.from (fun _ A B' row hs hg hr => hs.imp fun v h => h.blocks (kept_of hg hr)) _) (ownFrom_below hn hB)
theorem KO.put {n0 l0 fb bk : Nat} (h1 : n0 ≤ l0) (h2 : fb < l0) (h3 : bk < l0) (W : World) (r r' : Loop) (h : W.heap[l0]? = some (.loop r)) : KO n0 l0 fb bk W (W.putObj l0 (.loop r')) := by
  refine ⟨?_, fun k cs fz hk => ?_, World.putObj_heap_other (by omega), fun k o hl hk _ => (World.putObj_heap_other (by omega)).trans hk, fun k hk hl hf => ⟨World.putObj_heap_other (by omega), fun v hv => hf v ?_⟩⟩
  · exact (Below.refl n0 W).grown (grownBy_putObj' W l0 _) (Nat.le_trans h1 (Nat.le_of_lt (heap_lt h))) (fun k e => by cases e; exact h1)
  · have hne : k ≠ l0 := fun e => by subst e; rw [h] at hk; cases hk
    exact (World.putObj_heap_other hne).trans hk
  · exact (cell_of_block (World.putObj_heap_other (by omega))).symm.trans hv
theorem owns_ne {W : World} {B n b : Nat} {v : Value} {xs : List Value} (h : W.ownsRow B 9 1 v n xs) {cs : Array Value} {t : TypeId} {fz : Nat × Nat} (hb : W.heap[b]? = some (.cells cs t fz)) (ht : t ≠ 9) : some b ≠ v.ownBlock := by
  obtain ⟨-, h2⟩ := h
  intro e
  rcases h2 with ⟨rfl, -⟩ | ⟨g, cap, cur, rfl, hg, hbk, -⟩
  · cases e
  · cases e
    rw [hb] at hbk
    cases hbk
    exact ht rfl
theorem owns_cells {W : World} {B n j : Nat} {v : Value} {xs : List Value} (h : W.ownsRow B 9 1 v n xs) (e : v.ownBlock = some j) : ∃ cs, W.heap[j]? = some (.cells cs 9 (0, 0)) := by
  obtain ⟨-, h2⟩ := h
  rcases h2 with ⟨rfl, -⟩ | ⟨g, cap, cur, rfl, hg, hbk, -⟩
  · cases e
  · cases e
    exact ⟨_, hbk⟩
/-- Behind an append and the store of its answer. -/
theorem SvB.app {n0 : Nat} {k : Int} {pre : List ByteArray} {x : ByteArray} {v v' : Value} {W w1 : World} {o : Obj} (h : SvB n0 k pre v W) (hg : (W.alloc o).grownBy w1 v.ownBlock) (hrow : w1.ownsRow n0 9 1 v' (pre.length + 1) (strL pre ++ [.string x]))
    (hat : v'.ownBlock = v.ownBlock ∨ v'.ownBlock = some (W.alloc o).heap.size) : (∃ cs, w1.heap[n0 + 1]? = some (.cells #[cs] 39 (0, 0))) ∧ SvB n0 k (pre ++ [x]) v' (w1.setCell ⟨n0 + 1, 0, none⟩ v') ∧ KO n0 (n0 + 5) (n0 + 1) (n0 + 3) W (w1.setCell ⟨n0 + 1, 0, none⟩ v') ∧ KeepsOthers W (w1.setCell ⟨n0 + 1, 0, none⟩ v') := by
  have hb : Below W.heap.size W (W.alloc o) := (Below.refl _ _).alloc (Nat.le_refl _) _
  have hl : ∀ b, b < W.heap.size → b < (W.alloc o).heap.size := fun b hb => by simp; omega
  have hsz : (W.alloc o).heap.size = W.heap.size + 1 := by simp
  have hvl := heap_lt h.hv
  have hkl := heap_lt h.hk
  have e1 : w1.heap[n0 + 1]? = some (.cells #[v] 39 (0, 0)) := ((hg.block _ (hl _ hvl) (owns_ne h.hrow h.hv (by decide))).trans (hb.block _ hvl)).trans h.hv
  have e3 : w1.heap[n0 + 3]? = some (.cells #[.int .i64 k] 3 (0, 0)) := ((hg.block _ (hl _ hkl) (owns_ne h.hrow h.hk (by decide))).trans (hb.block _ hkl)).trans h.hk
  have f1 : (w1.setCell ⟨n0 + 1, 0, none⟩ v').heap[n0 + 1]? = some (.cells #[v'] 39 (0, 0)) := by rw [heap_setCell_same _ _ _ _ _ _ e1]; rfl
  have f3 : (w1.setCell ⟨n0 + 1, 0, none⟩ v').heap[n0 + 3]? = some (.cells #[.int .i64 k] 3 (0, 0)) := (Below.heap_setCell _ _ _ _ (by simp)).trans e3
  have hko : KeepsOthers W (w1.setCell ⟨n0 + 1, 0, none⟩ v') := ((KeepsOthers.alloc _ _).trans (KeepsOthers.of_grownBy hg (fun j o' e hj => by
    obtain ⟨cs, hc⟩ := owns_cells h.hrow e
    rw [hb.block j (heap_lt hc), hc] at hj
    cases hj
    rfl))).trans (KeepsOthers.setCell _ _ _)
  refine ⟨⟨v, e1⟩, ⟨f1, f3, ?_⟩, ⟨?_, fun j cs fz hj => ?_, f3.trans h.hk.symm, fun j o' _ hj ho => hko.same j o' hj ho, fun j hj hlj hf => ?_⟩, hko⟩
  · rw [List.length_append, strL_snoc]
    exact owns_store hrow e1 (by decide) v'
  · exact (((hb.mono (by omega)).grown hg (by omega) (owns_base h.hrow))).setCell (p := ⟨n0 + 1, 0, none⟩) (by simp) v'
  · have hjl := heap_lt hj
    have hne : j ≠ n0 + 1 := fun e => by subst e; rw [h.hv] at hj; cases hj
    rw [Below.heap_setCell _ _ _ _ (by simpa using hne)]
    exact ((hg.block _ (hl _ hjl) (owns_ne h.hrow hj (by decide))).trans (hb.block _ hjl)).trans hj
  · have hne : j ≠ n0 + 1 := by omega
    have hv0 := hf v (one_cell h.hv).1
    refine ⟨?_, fun u hu => ?_⟩
    · rw [Below.heap_setCell _ _ _ _ (by simpa using hne)]
      exact (hg.block _ (hl _ hj) (fun e => hv0 e.symm)).trans (hb.block _ hj)
    · rw [(one_cell f1).1] at hu
      cases hu
      rcases hat with e | e
      · rw [e]; exact hv0
      · rw [e, hsz]
        intro e2
        cases e2
        omega

set_option maxRecDepth 100000 in
set_option maxHeartbeats 2000000 in
theorem implSalv_any (s : ByteArray) (k : Int) (w : World) (hs : s.size ≤ 1048576) (ht : Steps w) :
    Calls Tryd.prog 19 #[.string s, .int .i64 k] w fun e w' => ∃ a cap, e = .returned (.slice a (svL s k).length cap) ∧ ResS w' w.heap.size a (svL s k) ∧ Below w.heap.size w w' := by
  obtain ⟨i0, hi, hz0, hz1, hz2⟩ := info_parts str_info
  have hFL := frs_len s s.size 0 (by omega)
  have hglt := ht.1
  refine (callsIn_wide (n := 6)).1 ?_
  refine callsIn_of_wp_marks Tryd.func19 rfl trivial ?_ rfl
  simp only [Tryd.ntmps19, List.size_toArray, List.length_cons, List.length_nil, Nat.reduceAdd, Nat.reduceSub, Array.replicate_succ, Array.replicate_zero, List.push_toArray, List.append_toArray, List.nil_append, List.cons_append]
  gi_wp2_with (refine ⟨trivial, ?_⟩; gi_at_call 56; refine (payloads_in _ _ trivial rfl _ _ _).mono ?_; rintro e w' ⟨rfl, rfl⟩)
  have hnew : SvB w.heap.size k [] (.slice (some ⟨w.heap.size, 0, none⟩) 0 0) ((((w.alloc (.cells #[] 9)).alloc (.cells #[.slice (some ⟨w.heap.size, 0, none⟩) 0 0] 39)).alloc (.cells #[.string s] 9)).alloc (.cells #[.int .i64 k] 3)) := by
    refine ⟨?_, alloc_at _ _ _ (by simp), ⟨rfl, .inr ⟨w.heap.size, 0, #[], rfl, Nat.le_refl _, ?_, Nat.le_refl _, Nat.zero_le _, rfl, rfl⟩⟩⟩
    · rw [Below.heap_alloc _ _ _ (by simp <;> omega), Below.heap_alloc _ _ _ (by simp)]
      exact alloc_at _ _ _ (by simp)
    · rw [Below.heap_alloc _ _ _ (by simp <;> omega), Below.heap_alloc _ _ _ (by simp <;> omega), Below.heap_alloc _ _ _ (by simp)]
      exact alloc_at _ _ _ rfl
  have hcs : ((((w.alloc (.cells #[] 9)).alloc (.cells #[.slice (some ⟨w.heap.size, 0, none⟩) 0 0] 39)).alloc (.cells #[.string s] 9)).alloc (.cells #[.int .i64 k] 3)).cell? ⟨w.heap.size + 2, 0, none⟩ = some (.string s) := by
    have h : ((((w.alloc (.cells #[] 9)).alloc (.cells #[.slice (some ⟨w.heap.size, 0, none⟩) 0 0] 39)).alloc (.cells #[.string s] 9)).alloc (.cells #[.int .i64 k] 3)).heap[w.heap.size + 2]? = some (.cells #[.string s] 9 (0, 0)) := by
      rw [Below.heap_alloc _ _ _ (by simp)]
      exact alloc_at _ _ _ (by simp)
    exact (one_cell h).1
  have hsz : ((((w.alloc (.cells #[] 9)).alloc (.cells #[.slice (some ⟨w.heap.size, 0, none⟩) 0 0] 39)).alloc (.cells #[.string s] 9)).alloc (.cells #[.int .i64 k] 3)).heap.size = w.heap.size + 4 := by simp
  have hbel : Below w.heap.size w ((((w.alloc (.cells #[] 9)).alloc (.cells #[.slice (some ⟨w.heap.size, 0, none⟩) 0 0] 39)).alloc (.cells #[.string s] 9)).alloc (.cells #[.int .i64 k] 3)) := ((((Below.refl _ _).alloc (by simp) _).alloc (by simp <;> omega) _).alloc (by simp <;> omega) _).alloc (by simp <;> omega) _
  generalize ((((w.alloc (.cells #[] 9)).alloc (.cells #[.slice (some ⟨w.heap.size, 0, none⟩) 0 0] 39)).alloc (.cells #[.string s] 9)).alloc (.cells #[.int .i64 k] 3)) = Wl at *
  have hstl := ht.below hbel
  refine loop_whole (gf := 77) (lb := #[.pointer (some ⟨w.heap.size + 2, 0, none⟩), .pointer (some ⟨w.heap.size + 3, 0, none⟩)]) rfl (enters_of Tryd.func77 (by kernel_rfl) rfl) (fun x : ByteArray => #[.string x]) (fun _ => rfl) (KO w.heap.size (Wl.heap.size + 1) (w.heap.size + 1) (w.heap.size + 3)) (fun ys => ys = svL s k) s.size KO.trans (KO.put (by omega) (by omega) (by omega)) ?seq (SvI w.heap.size k w) (svI_own _ _ _ _ (Nat.le_refl _) (by omega)) ⟨⟨_, hnew⟩, hbel⟩
    (fun x => { tmps := #[.string s, .int .i64 k, undef, undef, .slice none 0 0, .pointer (some ⟨w.heap.size + 1, 0, none⟩), .string x, .slice (some ⟨w.heap.size, 0, none⟩) 0 0, .string s, .int .i64 k, .func (.func 77) #[] #[.pointer (some ⟨w.heap.size + 1 + 1, 0, none⟩), .pointer (some ⟨w.heap.size + 1 + 1 + 1, 0, none⟩)], .string x, undef, undef, undef, undef, undef], defers := [] })
    ?assign ?body ?done
  case seq =>
    intro J W1 hz1 hb1 hOwn hY h0
    have hfb : W1.heap[w.heap.size + 1]? = some (.cells #[.slice (some ⟨w.heap.size, 0, none⟩) 0 0] 39 (0, 0)) := (hb1.block _ (by omega)).trans hnew.hv
    exact pays1_in _ (by omega) (Wl.heap.size + 1) (w.heap.size + 2) (w.heap.size + 3) (w.heap.size + 1) w.heap.size (Wl.heap.size + 2) s.size s k hs J W1 hOwn (by omega) (by omega) hFL hY ((hb1.cell (p := ⟨w.heap.size + 2, 0, none⟩) (by show w.heap.size + 2 < _; omega)).trans hcs) ((hb1.block _ (by omega)).trans hnew.hk) (hstl.below hb1) hglt (by omega) (by omega) (fun v j hv e => by rw [(one_cell hfb).1] at hv; cases hv; cases e; show w.heap.size < _; omega) h0
  case assign =>
    intro x W K hK
    gi_wp2
    exact hK
  case body =>
    rintro pre x W ⟨⟨v, hI⟩, hB⟩ hlt
    obtain ⟨v0, v1⟩ := one_cell hI.hv
    have HI : Hid (SvB w.heap.size k pre v W) := hI
    have HB : Hid (Below w.heap.size w W) := hB
    have HC : Hid (∀ j u, [Value.string x][j]? = some u → (W.alloc (.cells #[.string x] 9)).cell? ((⟨W.heap.size, 0, none⟩ : Addr).add j) = some u) := cell_first1 W (.string x) 9
    have hle := heap_lt hI.hv
    have HBs : Hid (w.heap.size ≤ (W.alloc (.cells #[.string x] 9)).heap.size) := by show _ ≤ _; simp; omega
    clear hI hB
    gi_wp2_with (gi_at_builtin; refine wpListIn_append_own_at _ rfl _ _ 39 rfl w.heap.size 9 i0 _ 1 16 Tryd.underlying39 hi hz0 hz1 hz2 rfl (by decide) _ _ _ rfl (HI.out.hrow.alloc _) ⟨W.heap.size, 0, none⟩ 1 1 [.string x] rfl rfl HC.out (fun x hx => by simp at hx; subst hx; rfl) (by unfold maxLen; omega) (by omega) HBs.out ?_; intro v' w1 hown' hgrow _ hat; have hA := hd (HI.out.app hgrow hown' hat); obtain ⟨g', cap', rfl⟩ := ownsRow_succ hown'; obtain ⟨cs0, hcs0⟩ := hA.out.1; obtain ⟨y0, y1⟩ := one_cell hcs0; clear hown' hgrow hat hcs0)
    obtain ⟨-, d1, d2, d3⟩ := hA.out
    first | exact ⟨d3.from _, d2, ⟨_, d1⟩, HB.out.trans d2.bel⟩ | exact ⟨rfl, d3.from _, d2, ⟨_, d1⟩, HB.out.trans d2.bel⟩
  case done =>
    rintro ys W rfl ⟨⟨v, hI⟩, hB⟩ hK
    obtain ⟨v0, v1⟩ := one_cell hI.hv
    obtain ⟨-, a, cap, rfl, hres⟩ := resS_of_owns hI.hrow
    gi_wp2
    have hBp := hB.trans (belowK_b (w := w) (Nat.le_refl _) _ Wl.heap.size _ (.deferred none) (by omega) hK rfl rfl)
    refine ⟨by simp, .inl ⟨_, _, rfl, run_takeDeferred hK, ?_⟩⟩
    exact ⟨_, results_tmp rfl _ _ _, a, cap, rfl, hres.blocks (kept_of (row := some Wl.heap.size) (grownBy_putObj' W Wl.heap.size (.deferred none)) (fun r e => by cases e; exact ⟨_, hK, rfl⟩)), hBp⟩
end Go.Proofs.YtfbmplecmaebbacDoor
