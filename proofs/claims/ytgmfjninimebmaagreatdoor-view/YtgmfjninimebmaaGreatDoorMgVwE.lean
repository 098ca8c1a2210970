import Derived.Test.YtgmfjninimebmaaGreatDoorMgVwA
import Derived.LoopNIn
namespace Go.Proofs.YtgmfjninimebmaaGreatDoor
open Go.RowKit Go.Maps Go.Shelf
attribute [local go_sem] Oper.semAt_some
set_option linter.unusedVariables false
set_option linter.unusedSimpArgs false

theorem OwnL.blocks {W W' : World} {B : Nat} {v : Value} {L : List LV} (h : OwnL W B v L) (hb : ∀ (g : Nat) (o : Obj), W.heap[g]? = some o → o.isCells = true → W'.heap[g]? = some o) : OwnL W' B v L :=
  ⟨owns_blocks h.row hb, fun l hl => (h.all l hl).blocks hb⟩
/-- The boxes of wholeLists. -/
structure WlB (n0 bk : Nat) (k : Int) (L : List LV) (v : Value) (W : World) : Prop where
  hv : W.heap[n0]? = some (.cells #[v] 47 (0, 0))
  hk : W.heap[bk]? = some (.cells #[.int .i64 k] 3 (0, 0))
  own : OwnL W n0 v L
theorem WlB.blocks {n0 bk : Nat} {k : Int} {L : List LV} {v : Value} {W W' : World} (h : WlB n0 bk k L v W) (hb : ∀ (g : Nat) (o : Obj), W.heap[g]? = some o → o.isCells = true → W'.heap[g]? = some o) : WlB n0 bk k L v W' :=
  ⟨hb _ _ h.hv rfl, hb _ _ h.hk rfl, h.own.blocks hb⟩
theorem WlB.below {n0 bk : Nat} {k : Int} {L : List LV} {v : Value} {W W' : World} (h : WlB n0 bk k L v W) (hb : Below W.heap.size W W') : WlB n0 bk k L v W' :=
  ⟨(hb.block _ (heap_lt h.hv)).trans h.hv, (hb.block _ (heap_lt h.hk)).trans h.hk, h.own.below hb⟩
/-- These loops' marks stand. -/
def Dk (ds : List Nat) (W : World) : Prop := ∀ d ∈ ds, W.heap[d]? = some (.deferred (some []))
def WlI {s : ByteArray} (n0 bk : Nat) (k : Int) (ds : List Nat) (P0 : List (List En)) (w : World) (pre : List (Ps s)) (W : World) : Prop :=
  ((∃ v L, WlB n0 bk k L v W ∧ L.map LV.xs = P0 ++ (pre.map Subtype.val).filterMap dec) ∧ Dk ds W) ∧ Below n0 w W
theorem dk_own {β : Type} (ds : List Nat) (B : Nat) (h : ∀ d ∈ ds, d < B) : OwnFrom B (fun (_ : β) W => Dk ds W) := fun _ W W' row hs hg hr d hd =>
  (hg.block d (heap_lt (hs d hd)) (fun e => by have := (hr d e.symm).1; have := h d hd; omega)).trans (hs d hd)
theorem wlI_own {s : ByteArray} (n0 bk : Nat) (k : Int) (ds : List Nat) (P0 : List (List En)) (B : Nat) (w : World) (hn : n0 ≤ w.heap.size) (hB : n0 ≤ B) (hd : ∀ d ∈ ds, d < B) : OwnFrom B (WlI (s := s) n0 bk k ds P0 w) :=
  OwnFrom.and (OwnFrom.and (Own.from (fun _ A B' row hs hg hr => hs.imp fun v h => h.imp fun L h => ⟨h.1.blocks (kept_of hg hr), h.2⟩) _) (dk_own ds B hd)) (ownFrom_below hn hB)
theorem KO.of {n0 l0 fb bk : Nat} {W W' : World} (h : Below W.heap.size W W') (hn : n0 ≤ W.heap.size) (hf : fb < W.heap.size) (hk : bk < W.heap.size) : KO n0 l0 fb bk W W' :=
  ⟨h.mono hn, fun j cs fz hj => (h.block _ (heap_lt hj)).trans hj, h.block _ hk, fun j o _ hj _ => (h.block _ (heap_lt hj)).trans hj, fun j hj _ hg => ⟨h.block _ hj, fun u hu => hg u ((cell_of_block (h.block fb hf)).symm.trans hu)⟩⟩
theorem KeepsOthers.ofB {W W' : World} (h : Below W.heap.size W W') : KeepsOthers W W' := ⟨h.size, fun j o hj _ => (h.block _ (heap_lt hj)).trans hj⟩
theorem ownsL_ne {W : World} {B n b : Nat} {v : Value} {xs : List Value} (h : W.ownsRow B 26 1 v n xs) {cs : Array Value} {t : TypeId} {fz : Nat × Nat} (hb : W.heap[b]? = some (.cells cs t fz)) (ht : t ≠ 26) : some b ≠ v.ownBlock := by
  obtain ⟨-, h2⟩ := h
  intro e
  rcases h2 with ⟨rfl, -⟩ | ⟨g, cap, cur, rfl, hg, hbk, -⟩
  · cases e
  · cases e
    rw [hb] at hbk
    cases hbk
    exact ht rfl
theorem ownsL_cells {W : World} {B n j : Nat} {v : Value} {xs : List Value} (h : W.ownsRow B 26 1 v n xs) (e : v.ownBlock = some j) : ∃ cs, W.heap[j]? = some (.cells cs 26 (0, 0)) := by
  obtain ⟨-, h2⟩ := h
  rcases h2 with ⟨rfl, -⟩ | ⟨g, cap, cur, rfl, hg, hbk, -⟩
  · cases e
  · cases e
    exact ⟨_, hbk⟩
theorem ownsL_store {W : World} {B n b : Nat} {v : Value} {xs : List Value} (h : W.ownsRow B 26 1 v n xs) {cs : Array Value} {t : TypeId} {fz : Nat × Nat} (hb : W.heap[b]? = some (.cells cs t fz)) (ht : t ≠ 26) (u : Value) : (W.setCell ⟨b, 0, none⟩ u).ownsRow B 26 1 v n xs := by
  obtain ⟨h1, h2⟩ := h
  refine ⟨h1, ?_⟩
  rcases h2 with h2 | ⟨g, cap, cur, e, hg, hbk, r⟩
  · exact .inl h2
  · refine .inr ⟨g, cap, cur, e, hg, ?_, r⟩
    rw [Below.heap_setCell _ _ _ _ (show g ≠ b from fun e => by subst e; rw [hb] at hbk; cases hbk; exact ht rfl)]
    exact hbk
/-- Behind an append and the store of its answer. -/
theorem WlB.app {n0 bk l0 : Nat} {k : Int} {L : List LV} {l : LV} {v v' : Value} {W W1 w1 : World} {o : Obj} (h : WlB n0 bk k L v W) (hl0 : n0 < l0) (hb1 : Below W.heap.size W W1) (hl : ResE W1 W.heap.size l.a l.xs) (hg : (W1.alloc o).grownBy w1 v.ownBlock)
    (hrow : w1.ownsRow n0 26 1 v' (L.length + 1) (cellsS L ++ [.slice l.a l.xs.length l.cap])) (hat : v'.ownBlock = v.ownBlock ∨ v'.ownBlock = some (W1.alloc o).heap.size) :
    (∃ cs, w1.heap[n0]? = some (.cells #[cs] 47 (0, 0))) ∧ WlB n0 bk k (L ++ [l]) v' (w1.setCell ⟨n0, 0, none⟩ v') ∧ KO n0 l0 n0 bk W (w1.setCell ⟨n0, 0, none⟩ v') ∧ KeepsOthers W (w1.setCell ⟨n0, 0, none⟩ v') := by
  have hb : Below W.heap.size W (W1.alloc o) := hb1.alloc hb1.size _
  have hs1 := hb1.size
  have hsz : (W1.alloc o).heap.size = W1.heap.size + 1 := by simp
  have hlw : ∀ b, b < W.heap.size → b < (W1.alloc o).heap.size := fun b hb => by omega
  have hvl := heap_lt h.hv
  have hkl := heap_lt h.hk
  have hne0 := ownsL_ne h.own.row h.hv (by decide)
  have hnek := ownsL_ne h.own.row h.hk (by decide)
  have hnk : bk ≠ n0 := fun e => by
    have h1 := h.hv
    rw [← e, h.hk] at h1
    cases h1
  have e1 : w1.heap[n0]? = some (.cells #[v] 47 (0, 0)) := ((hg.block _ (hlw _ hvl) hne0).trans (hb.block _ hvl)).trans h.hv
  have e3 : w1.heap[bk]? = some (.cells #[.int .i64 k] 3 (0, 0)) := ((hg.block _ (hlw _ hkl) hnek).trans (hb.block _ hkl)).trans h.hk
  have f1 : (w1.setCell ⟨n0, 0, none⟩ v').heap[n0]? = some (.cells #[v'] 47 (0, 0)) := by rw [heap_setCell_same _ _ _ _ _ _ e1]; rfl
  have f3 : (w1.setCell ⟨n0, 0, none⟩ v').heap[bk]? = some (.cells #[.int .i64 k] 3 (0, 0)) := (Below.heap_setCell _ _ _ _ (by simpa using hnk)).trans e3
  have ho : OwnL (W1.alloc o) n0 v L := h.own.below hb
  have hle : ResE (W1.alloc o) n0 l.a l.xs := (hl.below ((Below.refl _ _).alloc (Nat.le_refl _) _)).down (by omega)
  have ho1 : OwnL w1 n0 v' (L ++ [l]) := ho.app hle hg hrow
  have hko : KeepsOthers W (w1.setCell ⟨n0, 0, none⟩ v') := ((KeepsOthers.ofB hb).trans (KeepsOthers.of_grownBy hg (fun j o' e hj => by
    obtain ⟨cs, hc⟩ := ownsL_cells ho.row e
    rw [hc] at hj
    cases hj
    rfl))).trans (KeepsOthers.setCell _ _ _)
  refine ⟨⟨v, e1⟩, ⟨f1, f3, ownsL_store ho1.row e1 (by decide) v', fun x hx => (ho1.all x hx).set e1 (by decide) v'⟩, ⟨?_, fun j cs fz hj => ?_, f3.trans h.hk.symm, fun j o' _ hj ho => hko.same j o' hj ho, fun j hj hlj hf => ?_⟩, hko⟩
  · have hB : Below n0 W w1 := (hb.mono (by omega)).grown hg (by omega) (fun r e => by
      obtain ⟨-, h2⟩ := h.own.row
      rcases h2 with ⟨rfl, -⟩ | ⟨g, cap, cur, rfl, hg', hbk, -⟩
      · cases e
      · cases e; exact hg')
    exact hB.setCell (p := ⟨n0, 0, none⟩) (Nat.le_refl _) v'
  · have hjl := heap_lt hj
    have hne : j ≠ n0 := fun e => by subst e; rw [h.hv] at hj; cases hj
    rw [Below.heap_setCell _ _ _ _ (by simpa using hne)]
    exact ((hg.block _ (hlw _ hjl) (ownsL_ne h.own.row hj (by decide))).trans (hb.block _ hjl)).trans hj
  · have hv0 := hf v (one_cell h.hv).1
    by_cases hne : j = n0
    · omega
    · refine ⟨?_, fun u hu => ?_⟩
      · rw [Below.heap_setCell _ _ _ _ (by simpa using hne)]
        exact (hg.block _ (hlw _ hj) (fun e => hv0 e.symm)).trans (hb.block _ hj)
      · rw [(one_cell f1).1] at hu
        cases hu
        rcases hat with e | e
        · rw [e]; exact hv0
        · rw [e, hsz]
          intro e2
          cases e2
          omega
end Go.Proofs.YtgmfjninimebmaaGreatDoor
namespace Go.Proofs.YtgmfjninimebmaaGreatDoor
open Go.RowKit Go.Maps Go.Shelf
attribute [local go_sem] Oper.semAt_some
set_option linter.unusedVariables false
set_option linter.unusedSimpArgs false

theorem hdV {p : Prop} (h : p) : Hid p := h
theorem pre_cnt {s : ByteArray} {k : Int} {pre : List (Ps s)} : ((pre.map Subtype.val).filterMap dec).length ≤ pre.length := by
  refine Nat.le_trans (List.length_filterMap_le _ _) ?_
  rw [List.length_map]
  exact Nat.le_refl _
set_option maxRecDepth 100000 in
set_option maxHeartbeats 8000000 in
theorem wholeLists_any (s : ByteArray) (w : World) (hs : s.size ≤ 1048576) (ht : Steps w) :
    Calls Tryz.prog 49 #[.string s] w fun e w' => ∃ v L, e = .returned v ∧ L.map LV.xs = lsF s ∧ OwnL w' w.heap.size v L ∧ Below w.heap.size w w' := by
  obtain ⟨i0, hi, hz0, hz1, hz2⟩ := info_parts lst_info
  have hFL := frs_len s s.size 0 (by omega)
  have hglt := ht.1
  have HSF : Hid (lsF s = (svL s 66).filterMap dec ++ (svL s 87).filterMap dec) := rfl
  have hix0 : ∀ w : World, (Instr.index 126 (.agg #[.int .i64 66, .int .i64 87]) (.int .i64 0)).run Tryz.prog w = .ok (.int .i64 66) w := fun _ => by kernel_rfl
  have hix1 : ∀ w : World, (Instr.index 126 (.agg #[.int .i64 66, .int .i64 87]) (.int .i64 1)).run Tryz.prog w = .ok (.int .i64 87) w := fun _ => by kernel_rfl
  have hc66 : ((svL s 66).filterMap dec).length ≤ 1048576 := Nat.le_trans (List.length_filterMap_le _ _) (Nat.le_trans (sv_len s 66) hs)
  refine (callsIn_wide (n := 6)).1 ?_
  refine callsIn_of_wp_marks Tryz.func49 rfl trivial ?_ rfl
  simp only [Tryz.ntmps49, List.size_toArray, List.length_cons, List.length_nil, Nat.reduceAdd, Nat.reduceSub, Array.replicate_succ, Array.replicate_zero, List.push_toArray, List.append_toArray, List.nil_append, List.cons_append]
  have hbA : Below w.heap.size w (w.alloc (.cells #[.slice none 0 0] 47)) := (Below.refl _ _).alloc (Nat.le_refl _) _
  have hvA : (w.alloc (.cells #[.slice none 0 0] 47)).heap[w.heap.size]? = some (.cells #[.slice none 0 0] 47 (0, 0)) := World.heap_alloc_new _ _
  have hoA : OwnL (w.alloc (.cells #[.slice none 0 0] 47)) w.heap.size (.slice none 0 0) [] := OwnL.nil _ _
  gi_wp2
  refine wpIn_loop_rounds 3 ?_
  rw [roundsIn_succ]
  generalize w.alloc (.cells #[.slice none 0 0] 47) = WA at *
  gi_wp2_with (refine ⟨trivial, ?_⟩; gi_at_call 82; refine (payloads_in _ _ trivial rfl _ _ _).mono ?_; rintro e w' ⟨rfl, rfl⟩)
  have hlt1 := heap_lt hvA
  have hbW1 : Below WA.heap.size WA ((WA.alloc (.cells #[.string s] 9)).alloc (.cells #[.int .i64 66] 3)) := ((Below.refl _ _).alloc (Nat.le_refl _) _).alloc (by simp) _
  have hsz1 : ((WA.alloc (.cells #[.string s] 9)).alloc (.cells #[.int .i64 66] 3)).heap.size = WA.heap.size + 2 := by simp
  have hcs1 : ((WA.alloc (.cells #[.string s] 9)).alloc (.cells #[.int .i64 66] 3)).heap[WA.heap.size]? = some (.cells #[.string s] 9 (0, 0)) := by
    rw [Below.heap_alloc _ _ _ (by simp)]
    exact alloc_at _ _ _ rfl
  have hck1 : ((WA.alloc (.cells #[.string s] 9)).alloc (.cells #[.int .i64 66] 3)).heap[WA.heap.size + 1]? = some (.cells #[.int .i64 66] 3 (0, 0)) := alloc_at _ _ _ (by simp)
  have hw1 : WlB w.heap.size (WA.heap.size + 1) 66 [] (.slice none 0 0) ((WA.alloc (.cells #[.string s] 9)).alloc (.cells #[.int .i64 66] 3)) := ⟨(hbW1.block _ hlt1).trans hvA, hck1, hoA.below hbW1⟩
  have hB1 := hbA.trans (hbW1.mono (Nat.le_of_lt hlt1))
  have hD1 : Dk [] ((WA.alloc (.cells #[.string s] 9)).alloc (.cells #[.int .i64 66] 3)) := (fun d hd => by cases hd)
  generalize ((WA.alloc (.cells #[.string s] 9)).alloc (.cells #[.int .i64 66] 3)) = Wl1 at *
  have hstl1 := ht.low hB1 hglt
  refine loop_whole (gf := 126) (lb := #[.pointer (some ⟨WA.heap.size, 0, none⟩), .pointer (some ⟨WA.heap.size + 1, 0, none⟩)]) rfl (enters_of Tryz.func126 (by kernel_rfl) rfl) (fun x : Ps s => #[.string x.1]) (fun _ => rfl) (KO w.heap.size (Wl1.heap.size + 1) w.heap.size (WA.heap.size + 1)) (fun ys => ys.map Subtype.val = svL s 66) s.size KO.trans (KO.put (by omega) (by omega) (by omega)) ?seq1 (WlI (s := s) w.heap.size (WA.heap.size + 1) 66 [] ([] : List (List En)) w) (wlI_own _ _ _ _ _ _ _ (Nat.le_refl _) (by omega) (by intro d hd; simp at hd; try omega)) ⟨⟨⟨_, _, hw1, by simp [hFL]⟩, hD1⟩, hB1⟩
    (fun x => { tmps := #[.string s, undef, .slice none 0 0, .pointer (some ⟨w.heap.size, 0, none⟩), undef, .int .i64 66, .string x.1, undef, undef, .agg #[.int .i64 66, .int .i64 87], .int .i64 0, .bool true, .int .i64 66, .string s, .int .i64 66, .func (.func 126) #[] #[.pointer (some ⟨WA.heap.size, 0, none⟩), .pointer (some ⟨WA.heap.size + 1, 0, none⟩)], .string x.1, undef, undef, undef, undef, undef, undef, undef, undef, undef, undef, undef, undef], defers := [] })
    ?assign1 ?body1 ?done1
  case seq1 =>
    intro J W1 hz1 hb1 hOwn hY h0
    have hfb : W1.heap[w.heap.size]? = some (.cells #[(.slice none 0 0)] 47 (0, 0)) := (hb1.block _ (by omega)).trans hw1.hv
    have hol := owns_lt hw1.own.row
    exact pays2_in _ (by omega) (Wl1.heap.size + 1) WA.heap.size (WA.heap.size + 1) w.heap.size w.heap.size (Wl1.heap.size + 2) s.size s 66 hs J W1 hOwn (by omega) (by omega) hFL hY (one_cell ((hb1.block _ (by omega)).trans hcs1)).1 ((hb1.block _ (by omega)).trans hck1) (hstl1.below hb1) hglt (by omega) (by omega) (fun v j hv e => by rw [(one_cell hfb).1] at hv; cases hv; have := hol _ e; omega) h0
  case assign1 =>
    intro x W K hK
    gi_wp2
    exact hK
  case body1 =>
    rintro pre x W ⟨⟨⟨v, L, hI, hL⟩, hDk⟩, hB⟩ hlt
    obtain ⟨v0, v1⟩ := one_cell hI.hv
    have hxs := x.2
    have HD := hdV (fun w => implDec_any x.1 w (by omega))
    have hpc := pre_cnt (k := 0) (pre := pre)
    have hLl : L.length ≤ 2097152 := by
      have := congrArg List.length hL
      simp only [List.length_map, List.length_append, List.length_nil] at this
      omega
    have HSZ := hdV hsz1
    have hl0 : w.heap.size < Wl1.heap.size + 1 := by omega
    clear hsz1
    have HI := hdV hI
    have HL := hdV hL
    have HDK := hdV hDk
    have HB := hdV hB
    have hle := heap_lt hI.hv
    have hlk := heap_lt hI.hk
    clear hI hL hDk hB
    cases hdp : dec x.1 with
    | none =>
      have hdL : decL x.1 = [] := by unfold decL; rw [hdp]; rfl
      have HLn : Hid (L.map LV.xs = ([] : List (List En)) ++ ((pre ++ [x]).map Subtype.val).filterMap dec) := by show _ = _; rw [HL.out, List.map_append, List.filterMap_append]; simp [hdp]
      rw [hdp] at HD
      clear HL hdp
      gi_wp2_with (refine ⟨trivial, (CallsIn.inRound _ (callsIn_wide.2 (HD.out _))).mono ?_⟩; rintro e W1 ⟨a1, cap1, rfl, hr1, hb1⟩; have HB1 := hdV hb1; clear hb1 hr1)
      have hd4 : Dk [] W1 := fun d hd => (HB1.out.block _ (heap_lt (HDK.out d hd))).trans (HDK.out d hd)
      have hko := KO.of (n0 := w.heap.size) (l0 := Wl1.heap.size + 1) (fb := w.heap.size) (bk := WA.heap.size + 1) HB1.out (by omega) hle hlk
      first | exact ⟨rfl, (KeepsOthers.ofB HB1.out).from _, hko, ⟨⟨_, _, HI.out.below HB1.out, HLn.out⟩, hd4⟩, HB.out.trans hko.bel⟩ | exact ⟨(KeepsOthers.ofB HB1.out).from _, hko, ⟨⟨_, _, HI.out.below HB1.out, HLn.out⟩, hd4⟩, HB.out.trans hko.bel⟩
    | some es =>
      have hdL : decL x.1 = es := by unfold decL; rw [hdp]; rfl
      have HLn : Hid (∀ a c, (L ++ [LV.mk a c es]).map LV.xs = ([] : List (List En)) ++ ((pre ++ [x]).map Subtype.val).filterMap dec) := fun a c => by rw [List.map_append, HL.out, List.map_append, List.filterMap_append]; simp [hdp]
      rw [hdp, hdL] at HD
      clear HL hdp hdL
      gi_wp2_with (first
        | (refine ⟨trivial, (CallsIn.inRound _ (callsIn_wide.2 (HD.out _))).mono ?_⟩; rintro e W1 ⟨a1, cap1, rfl, hr1, hb1⟩; have HB1 := hdV hb1; have HR1 := hdV hr1; have y0 := (hb1.cell (p := ⟨w.heap.size, 0, none⟩) hle).trans v0; have HC : Hid (∀ j u, [Value.slice a1 es.length cap1][j]? = some u → (W1.alloc (.cells #[.slice a1 es.length cap1] 26)).cell? ((⟨W1.heap.size, 0, none⟩ : Addr).add j) = some u) := cell_first1 W1 (.slice a1 es.length cap1) 26; have HBs : Hid (w.heap.size ≤ (W1.alloc (.cells #[.slice a1 es.length cap1] 26)).heap.size) := (by have := hb1.size; show _ ≤ _; simp; omega); have HO1 := hdV (HI.out.own.below hb1); clear hb1 hr1)
        | (gi_at_builtin; refine wpListIn_append_own_at _ rfl _ _ 47 rfl w.heap.size 26 i0 _ 1 24 Tryz.underlying47 hi hz0 hz1 hz2 rfl (by decide) _ _ _ rfl (HO1.out.row.alloc _) ⟨W1.heap.size, 0, none⟩ 1 1 [.slice a1 es.length cap1] rfl rfl HC.out (fun x hx => by simp at hx; subst hx; rfl) (by unfold maxLen; omega) (by omega) HBs.out ?_; intro v' w1 hown' hgrow _ hat; have hA := hdV (HI.out.app (l0 := Wl1.heap.size + 1) (l := LV.mk a1 cap1 es) hl0 HB1.out HR1.out hgrow hown' hat); obtain ⟨g', cap', rfl⟩ := ownsRow_succ hown'; obtain ⟨cs0, hcs0⟩ := hA.out.1; obtain ⟨z0, z1⟩ := one_cell hcs0; clear hown' hgrow hat hcs0))
      obtain ⟨-, d1, d2, d3⟩ := hA.out
      have hd4 : Dk [] _ := fun d hd => d3.same _ _ (HDK.out d hd) rfl
      first | exact ⟨d3.from _, d2, ⟨⟨_, _, d1, HLn.out _ _⟩, hd4⟩, HB.out.trans d2.bel⟩ | exact ⟨rfl, d3.from _, d2, ⟨⟨_, _, d1, HLn.out _ _⟩, hd4⟩, HB.out.trans d2.bel⟩
  case done1 =>
    rintro ys Wb hys ⟨⟨⟨vb', Lb, hI, hL⟩, -⟩, hB⟩ hK
    have hL1 : Lb.map LV.xs = (svL s 66).filterMap dec := by rw [hL, hys]; rfl
    have hLl1 : (Lb.map LV.xs).length ≤ 1048576 := by rw [hL1]; exact hc66
    rw [List.length_map] at hLl1
    have hlt := heap_lt hK
    have hvW := hI.hv
    have hoW := hI.own
    have hs0 := hB1.size
    have hltb := hlt
    clear hsz1 hI hL hys hw1 hck1 hcs1 hD1 hstl1
    gi_wp2
    rw [roundsIn_succ]
    gi_wp2_with (refine ⟨trivial, ?_⟩; gi_at_call 82; refine (payloads_in _ _ trivial rfl _ _ _).mono ?_; rintro e w' ⟨rfl, rfl⟩)
    have hlt2 := heap_lt hvW
    have hbW2 : Below Wb.heap.size Wb ((Wb.alloc (.cells #[.string s] 9)).alloc (.cells #[.int .i64 87] 3)) := ((Below.refl _ _).alloc (Nat.le_refl _) _).alloc (by simp) _
    have hsz2 : ((Wb.alloc (.cells #[.string s] 9)).alloc (.cells #[.int .i64 87] 3)).heap.size = Wb.heap.size + 2 := by simp
    have hcs2 : ((Wb.alloc (.cells #[.string s] 9)).alloc (.cells #[.int .i64 87] 3)).heap[Wb.heap.size]? = some (.cells #[.string s] 9 (0, 0)) := by
      rw [Below.heap_alloc _ _ _ (by simp)]
      exact alloc_at _ _ _ rfl
    have hck2 : ((Wb.alloc (.cells #[.string s] 9)).alloc (.cells #[.int .i64 87] 3)).heap[Wb.heap.size + 1]? = some (.cells #[.int .i64 87] 3 (0, 0)) := alloc_at _ _ _ (by simp)
    have hw2 : WlB w.heap.size (Wb.heap.size + 1) 87 Lb vb' ((Wb.alloc (.cells #[.string s] 9)).alloc (.cells #[.int .i64 87] 3)) := ⟨(hbW2.block _ hlt2).trans hvW, hck2, hoW.below hbW2⟩
    have hB2 := hB.trans (hbW2.mono (Nat.le_of_lt hlt2))
    have hD2 : Dk [Wl1.heap.size] ((Wb.alloc (.cells #[.string s] 9)).alloc (.cells #[.int .i64 87] 3)) := (fun d hd => by simp at hd; subst hd; exact (hbW2.block _ hlt).trans hK)
    generalize ((Wb.alloc (.cells #[.string s] 9)).alloc (.cells #[.int .i64 87] 3)) = Wl2 at *
    have hstl2 := ht.low hB2 hglt
    refine loop_whole (gf := 126) (lb := #[.pointer (some ⟨Wb.heap.size, 0, none⟩), .pointer (some ⟨Wb.heap.size + 1, 0, none⟩)]) rfl (enters_of Tryz.func126 (by kernel_rfl) rfl) (fun x : Ps s => #[.string x.1]) (fun _ => rfl) (KO w.heap.size (Wl2.heap.size + 1) w.heap.size (Wb.heap.size + 1)) (fun ys => ys.map Subtype.val = svL s 87) s.size KO.trans (KO.put (by omega) (by omega) (by omega)) ?seq2 (WlI (s := s) w.heap.size (Wb.heap.size + 1) 87 [Wl1.heap.size] ((svL s 66).filterMap dec) w) (wlI_own _ _ _ _ _ _ _ (Nat.le_refl _) (by omega) (by intro d hd; simp at hd; try omega)) ⟨⟨⟨_, _, hw2, by simp [hL1]⟩, hD2⟩, hB2⟩
      (fun x => { tmps := #[.string s, undef, .slice none 0 0, .pointer (some ⟨w.heap.size, 0, none⟩), undef, .int .i64 87, .string x.1, undef, undef, .agg #[.int .i64 66, .int .i64 87], .int .i64 1, .bool true, .int .i64 87, .string s, .int .i64 87, .func (.func 126) #[] #[.pointer (some ⟨Wb.heap.size, 0, none⟩), .pointer (some ⟨Wb.heap.size + 1, 0, none⟩)], .string x.1, undef, undef, undef, undef, undef, undef, undef, undef, undef, undef, .int .i64 1, undef], defers := [] })
      ?assign2 ?body2 ?done2
    case seq2 =>
      intro J W1 hz1 hb1 hOwn hY h0
      have hfb : W1.heap[w.heap.size]? = some (.cells #[vb'] 47 (0, 0)) := (hb1.block _ (by omega)).trans hw2.hv
      have hol := owns_lt hw2.own.row
      exact pays2_in _ (by omega) (Wl2.heap.size + 1) Wb.heap.size (Wb.heap.size + 1) w.heap.size w.heap.size (Wl2.heap.size + 2) s.size s 87 hs J W1 hOwn (by omega) (by omega) hFL hY (one_cell ((hb1.block _ (by omega)).trans hcs2)).1 ((hb1.block _ (by omega)).trans hck2) (hstl2.below hb1) hglt (by omega) (by omega) (fun v j hv e => by rw [(one_cell hfb).1] at hv; cases hv; have := hol _ e; omega) h0
    case assign2 =>
      intro x W K hK
      gi_wp2
      exact hK
    case body2 =>
      rintro pre x W ⟨⟨⟨v, L, hI, hL⟩, hDk⟩, hB⟩ hlt
      obtain ⟨v0, v1⟩ := one_cell hI.hv
      have hxs := x.2
      have HD := hdV (fun w => implDec_any x.1 w (by omega))
      have hpc := pre_cnt (k := 0) (pre := pre)
      have hLl : L.length ≤ 2097152 := by
        have := congrArg List.length hL
        simp only [List.length_map, List.length_append, List.length_nil] at this
        omega
      have HSZ := hdV hsz2
      have hl0 : w.heap.size < Wl2.heap.size + 1 := by omega
      clear hsz2
      have HI := hdV hI
      have HL := hdV hL
      have HDK := hdV hDk
      have HB := hdV hB
      have hle := heap_lt hI.hv
      have hlk := heap_lt hI.hk
      clear hI hL hDk hB
      cases hdp : dec x.1 with
      | none =>
        have hdL : decL x.1 = [] := by unfold decL; rw [hdp]; rfl
        have HLn : Hid (L.map LV.xs = ((svL s 66).filterMap dec) ++ ((pre ++ [x]).map Subtype.val).filterMap dec) := by show _ = _; rw [HL.out, List.map_append, List.filterMap_append]; simp [hdp]
        rw [hdp] at HD
        clear HL hdp
        gi_wp2_with (refine ⟨trivial, (CallsIn.inRound _ (callsIn_wide.2 (HD.out _))).mono ?_⟩; rintro e W1 ⟨a1, cap1, rfl, hr1, hb1⟩; have HB1 := hdV hb1; clear hb1 hr1)
        have hd4 : Dk [Wl1.heap.size] W1 := fun d hd => (HB1.out.block _ (heap_lt (HDK.out d hd))).trans (HDK.out d hd)
        have hko := KO.of (n0 := w.heap.size) (l0 := Wl2.heap.size + 1) (fb := w.heap.size) (bk := Wb.heap.size + 1) HB1.out (by omega) hle hlk
        first | exact ⟨rfl, (KeepsOthers.ofB HB1.out).from _, hko, ⟨⟨_, _, HI.out.below HB1.out, HLn.out⟩, hd4⟩, HB.out.trans hko.bel⟩ | exact ⟨(KeepsOthers.ofB HB1.out).from _, hko, ⟨⟨_, _, HI.out.below HB1.out, HLn.out⟩, hd4⟩, HB.out.trans hko.bel⟩
      | some es =>
        have hdL : decL x.1 = es := by unfold decL; rw [hdp]; rfl
        have HLn : Hid (∀ a c, (L ++ [LV.mk a c es]).map LV.xs = ((svL s 66).filterMap dec) ++ ((pre ++ [x]).map Subtype.val).filterMap dec) := fun a c => by rw [List.map_append, HL.out, List.map_append, List.filterMap_append]; simp [hdp]
        rw [hdp, hdL] at HD
        clear HL hdp hdL
        gi_wp2_with (first
          | (refine ⟨trivial, (CallsIn.inRound _ (callsIn_wide.2 (HD.out _))).mono ?_⟩; rintro e W1 ⟨a1, cap1, rfl, hr1, hb1⟩; have HB1 := hdV hb1; have HR1 := hdV hr1; have y0 := (hb1.cell (p := ⟨w.heap.size, 0, none⟩) hle).trans v0; have HC : Hid (∀ j u, [Value.slice a1 es.length cap1][j]? = some u → (W1.alloc (.cells #[.slice a1 es.length cap1] 26)).cell? ((⟨W1.heap.size, 0, none⟩ : Addr).add j) = some u) := cell_first1 W1 (.slice a1 es.length cap1) 26; have HBs : Hid (w.heap.size ≤ (W1.alloc (.cells #[.slice a1 es.length cap1] 26)).heap.size) := (by have := hb1.size; show _ ≤ _; simp; omega); have HO1 := hdV (HI.out.own.below hb1); clear hb1 hr1)
          | (gi_at_builtin; refine wpListIn_append_own_at _ rfl _ _ 47 rfl w.heap.size 26 i0 _ 1 24 Tryz.underlying47 hi hz0 hz1 hz2 rfl (by decide) _ _ _ rfl (HO1.out.row.alloc _) ⟨W1.heap.size, 0, none⟩ 1 1 [.slice a1 es.length cap1] rfl rfl HC.out (fun x hx => by simp at hx; subst hx; rfl) (by unfold maxLen; omega) (by omega) HBs.out ?_; intro v' w1 hown' hgrow _ hat; have hA := hdV (HI.out.app (l0 := Wl2.heap.size + 1) (l := LV.mk a1 cap1 es) hl0 HB1.out HR1.out hgrow hown' hat); obtain ⟨g', cap', rfl⟩ := ownsRow_succ hown'; obtain ⟨cs0, hcs0⟩ := hA.out.1; obtain ⟨z0, z1⟩ := one_cell hcs0; clear hown' hgrow hat hcs0))
        obtain ⟨-, d1, d2, d3⟩ := hA.out
        have hd4 : Dk [Wl1.heap.size] _ := fun d hd => d3.same _ _ (HDK.out d hd) rfl
        first | exact ⟨d3.from _, d2, ⟨⟨_, _, d1, HLn.out _ _⟩, hd4⟩, HB.out.trans d2.bel⟩ | exact ⟨rfl, d3.from _, d2, ⟨⟨_, _, d1, HLn.out _ _⟩, hd4⟩, HB.out.trans d2.bel⟩
    case done2 =>
      rintro ys2 W2 hys2 ⟨⟨⟨v2, L2, hI2, hL2⟩, hD2⟩, hB2⟩ hK2
      have hLs : L2.map LV.xs = lsF s := by rw [hL2, hys2, HSF.out]
      have hK1 := hD2 Wl1.heap.size (by simp)
      obtain ⟨v0, v1⟩ := one_cell hI2.hv
      obtain ⟨av, cv, rfl, -⟩ := hI2.own.lie
      gi_wp2
      rw [roundsIn_succ]
      gi_wp2
      have hne : Wl1.heap.size ≠ Wl2.heap.size := by omega
      have hK1' : (W2.putObj Wl2.heap.size (.deferred none)).heap[Wl1.heap.size]? = some (.deferred (some [])) := (World.putObj_heap_other hne).trans hK1
      refine ⟨by simp, .inl ⟨_, _, rfl, run_takeDeferred hK2, ?_⟩⟩
      refine ⟨by simp, .inl ⟨_, _, rfl, run_takeDeferred hK1', ?_⟩⟩
      have hBp := hB2.trans (belowK_b (w := w) (Nat.le_refl _) _ Wl2.heap.size _ (.deferred none) (by omega) hK2 rfl rfl)
      have hBq := hBp.trans (belowK_b (w := w) (Nat.le_refl _) _ Wl1.heap.size _ (.deferred none) (by omega) hK1' rfl rfl)
      have ho2 := hI2.own.blocks (kept_of (row := some Wl2.heap.size) (grownBy_putObj' W2 Wl2.heap.size (.deferred none)) (fun r e => by cases e; exact ⟨_, hK2, rfl⟩))
      have ho3 := ho2.blocks (kept_of (row := some Wl1.heap.size) (grownBy_putObj' _ Wl1.heap.size (.deferred none)) (fun r e => by cases e; exact ⟨_, hK1', rfl⟩))
      exact ⟨_, results_tmp (t := 2) rfl _ _ _, _, _, rfl, hLs, ho3, hBq⟩
end Go.Proofs.YtgmfjninimebmaaGreatDoor
namespace Go.Proofs.YtgmfjninimebmaaGreatDoor
open Go.RowKit Go.Maps
set_option linter.unusedVariables false
set_option linter.unusedSimpArgs false

theorem cellsS_len (L : List LV) : (cellsS L).length = L.length := by simp [cellsS]
theorem cellsS_one (L : List LV) : ∀ u ∈ cellsS L, u.oneCell' = true := by
  intro u hu
  obtain ⟨l, -, rfl⟩ := List.mem_map.1 hu
  rfl
theorem LieSS.cells {w : World} {b off : Nat} {L : List LV} (h : LieSS w (some ⟨b, off, none⟩) L) : ∀ j u, (cellsS L)[j]? = some u → w.cell? ((⟨b, off, none⟩ : Addr).add j) = some u := by
  intro j u hu
  rw [Go.WideShapes.add_plain]
  have hj : j < (cellsS L).length := (List.getElem?_eq_some_iff.1 hu).1
  rw [cellsS_len] at hj
  rcases h with rfl | ⟨b', off', e, hlt, hc⟩
  · simp at hj
  · cases e
    rw [cellsS_at L j hj] at hu
    cases hu
    exact (hc j hj).1
theorem allE_flat (L : List LV) : allE L = (L.map LV.xs).flatten := by
  unfold allE
  rw [List.flatMap_def]
/-- Lists behind lists that the call owns. -/
theorem run_append_lists (w : World) (B B2 : Nat) (v v2 : Value) (L M : List LV) (ho : OwnL w B v L) (hm : OwnL w B2 v2 M) (hB2 : B ≤ B2) (hb : L.length + M.length ≤ 4000000) (hB : B ≤ w.heap.size) (ty : TypeId) :
    ∃ v' w', (Builtin.append_ #[47, 47] ty #[v, v2]).run Tryz.prog w = .ok v' w' ∧ OwnL w' B v' (L ++ M) ∧ w.grownBy w' v.ownBlock := by
  obtain ⟨i0, hi, hz0, hz1, hz2⟩ := info_parts lst_info
  obtain ⟨a, c, rfl, hy, hc, -⟩ := hm.lie
  by_cases hnil : M = []
  · subst hnil
    have hS : Src Tryz.prog i0.size 47 (.slice a ([] : List LV).length c) 0 [] w := by
      cases a with
      | none => exact Src.ofNil w Tryz.underlying47 c
      | some ad => exact Src.ofSlice w Tryz.underlying47 ad 0 c [] (by simp) (fun j u h => by simp at h) (fun u h => by cases h)
    obtain ⟨b, cap, rfl, -, hle, -⟩ := ho.lie
    refine ⟨_, _, run_append_nothing w _ _ ty _ i0 Tryz.underlying47 hi b L.length cap hle _ hS, by simpa using ho, ⟨rfl, rfl, rfl, Nat.le_refl _, fun _ _ _ => rfl⟩⟩
  · rcases id hy with h | ⟨b, off, rfl, -⟩
    · exact absurd h hnil
    obtain ⟨v', w', h1, h2, h3, -, h5⟩ := run_append_own_at (P := Tryz.prog) w B 47 ty 26 i0 _ 1 24 Tryz.underlying47 hi hz0 hz1 hz2 rfl (by decide) v L.length (cellsS L) ho.row ⟨b, off, none⟩ M.length c (cellsS M) (by rw [cellsS_len]; omega) hy.cells (cellsS_one M) (by unfold maxLen; omega) (by omega) hB
    refine ⟨v', w', h1, ⟨?_, fun l hl => ?_⟩, h3⟩
    · rw [cellsS_app, List.length_append]
      exact h2
    · rcases List.mem_append.1 hl with hl | hl
      · exact (ho.all l hl).grownL h3 ho.row
      · exact ((hm.all l hl).down hB2).grownL h3 ho.row
theorem wpList_append_lists (w : World) {ops : Array Oper} {rest : List Oper} {o : Oper} {a : Act} {Q : Exit → Act → World → Prop} (hgd : o.guard = none) (s x : Operand)
    (ho : o.op = .call { callee := .builtin .append, args := #[s, x], argTypes := #[47, 47] })
    (B B2 : Nat) (v v2 : Value) (L M : List LV) (hs : a.eval s = v) (hown : OwnL w B v L) (hx : a.eval x = v2) (hm : OwnL w B2 v2 M) (hB2 : B ≤ B2) (hb : L.length + M.length ≤ 4000000) (hB : B ≤ w.heap.size)
    (h : ∀ v' w', OwnL w' B v' (L ++ M) → w.grownBy w' v.ownBlock → wpList Tryz.prog ops Q rest (a.put o.dst v') w') :
    wpList Tryz.prog ops Q (o :: rest) a w := by
  refine wpList_plain hgd fun K hK => ?_
  obtain ⟨v', w', hr, h2, h3⟩ := run_append_lists w B B2 v v2 L M hown hm hB2 hb hB o.type
  unfold Oper.wp execOp
  simp only [ho, resolve, invoke, builtin, Sem.run_bind, Sem.run_pure, Result.andThen_ok, List.map_toArray, List.map_cons, List.map_nil, hs, hx, hr]
  exact hK _ _ (h v' w' h2 h3)
theorem lastE_snoc (xs : List En) (e : En) : lastE (xs ++ [e]) = max (lastE xs) e.sq := by
  unfold lastE
  rw [List.foldl_append]
  rfl
theorem take_snocE (xs : List En) (j : Nat) (h : j < xs.length) : xs.take (j + 1) = xs.take j ++ [xs.getD j en0] := by
  rw [List.take_succ_eq_append_getElem h]
  simp [List.getD, h]
end Go.Proofs.YtgmfjninimebmaaGreatDoor
namespace Go.Proofs.YtgmfjninimebmaaGreatDoor
open Go.RowKit Go.Maps
set_option linter.unusedVariables false
set_option linter.unusedSimpArgs false

set_option maxRecDepth 100000 in
set_option maxHeartbeats 8000000 in
theorem salvageFiles_any (a : Option Addr) (cap : Nat) (xs : List Fl) (q fu : Int) (w : World) (hx : Lie w a xs) (hlen : xs.length ≤ 1048576) (hd : datas xs ≤ 1048576) (hst : Steps w) :
    Calls Tryz.prog 23 #[.agg #[.slice a xs.length cap, .int .i64 q, .int .i64 fu]] w fun e w' => ∃ a' c', e = .returned (.agg #[.slice a' (newE (lsA xs).flatten).length c', .int .i64 (lastE (lsA xs).flatten)]) ∧ ResE w' w.heap.size a' (newE (lsA xs).flatten) ∧ Below w.heap.size w w' := by
  have hb0 : Below w.heap.size w ((w.alloc (.cells #[.slice a xs.length cap, .int .i64 q, .int .i64 fu] 32)).alloc (.cells #[.slice none 0 0, .int .i64 0] 28)) := ((Below.refl _ _).alloc (Nat.le_refl _) _).alloc (by simp) _
  have hr0 : ((w.alloc (.cells #[.slice a xs.length cap, .int .i64 q, .int .i64 fu] 32)).alloc (.cells #[.slice none 0 0, .int .i64 0] 28)).heap[w.heap.size + 1]? = some (.cells #[.slice none 0 0, .int .i64 0] 28 (0, 0)) := by
    have := World.heap_alloc_new (w.alloc (.cells #[.slice a xs.length cap, .int .i64 q, .int .i64 fu] 32)) (.cells #[.slice none 0 0, .int .i64 0] 28)
    rw [World.size_alloc] at this
    exact this
  have hs0 : ((w.alloc (.cells #[.slice a xs.length cap, .int .i64 q, .int .i64 fu] 32)).alloc (.cells #[.slice none 0 0, .int .i64 0] 28)).heap.size = w.heap.size + 2 := by simp
  have HX0 := hdV (hx.below hb0)
  have HOn := hdV (fun (f : Fl) (w : World) => outside_any f w)
  have HLA := hdV (fun i => lsA_take_le xs i)
  have HLT := hdV (lsA_take xs)
  have HDF : Hid (∀ i, i < xs.length → (xs.getD i fl0).dt.size ≤ 1048576) := fun i hi => by
    have h1 := datas_snoc xs i hi
    have h2 := datas_take_le xs (i + 1)
    omega
  go_enter Tryz.func23, Tryz.ntmps23
  go_wp2_with fail
  generalize hW0 : ((w.alloc (.cells #[.slice a xs.length cap, .int .i64 q, .int .i64 fu] 32)).alloc (.cells #[.slice none 0 0, .int .i64 0] 28)) = W0 at *
  have HWh := hdV (fun (W : World) (hb : Below W0.heap.size W0 W) (s : ByteArray) (hs : s.size ≤ 1048576) => wholeLists_any s W hs ((hst.below hb0).below hb))
  have HS0 := hdV hs0
  have HST0 := hdV (hst.below hb0)
  clear hW0 hs0 hst
  go_loopw [3, 12] (fun v3 v12 W => ∃ (i : Nat) (L : List LV), v12 = .int .i64 (i : Int) ∧ i ≤ xs.length ∧ Hid (OwnL W W0.heap.size v3 L) ∧ Hid (L.map LV.xs = lsA (xs.take i)) ∧ Hid (Below W0.heap.size W0 W)) (fun _ v12 _ => xs.length - (intOf v12).toNat)
  case atStart => exact ⟨0, [], rfl, Nat.zero_le _, OwnL.nil _ _, rfl, Below.refl _ _⟩
  case round =>
    obtain ⟨i, L, rfl, hi, HO, HL, HB⟩ := hrel
    by_cases hA : i < xs.length
    · have hA' : (i : Int) < (xs.length : Int) := by omega
      obtain ⟨b, off, hab, hbl, c0, c1, c2⟩ := (HX0.out.below HB.out).at hA
      subst hab
      have hcnt := HLA.out (i + 1)
      have HT := hdV (HLT.out i hA)
      rw [HT.out, cntL_app] at hcnt
      have hcl : L.length = (lsA (xs.take i)).length := by rw [← HL.out, List.length_map]
      have hc1 : (lsA (xs.take i)).length ≤ cntL (lsA (xs.take i)) := Nat.le_add_right _ _
      have hdt := HDF.out i hA
      have hsz := HB.out.size
      generalize xs.getD i fl0 = f at *
      have hbf : Below wr.heap.size wr (wr.alloc (.cells #[.string f.nm, .string f.dt, .int .i64 f.sy] 66)) := (Below.refl _ _).alloc (Nat.le_refl _) _
      have hBf := hdV (HB.out.trans (hbf.mono hsz))
      have HOf := hdV (HO.out.below hbf)
      have HC := hdV (HOn.out f (wr.alloc (.cells #[.string f.nm, .string f.dt, .int .i64 f.sy] 66)))
      generalize hown : ownN f.nm = own at *
      have hsf : wr.heap.size < (wr.alloc (.cells #[.string f.nm, .string f.dt, .int .i64 f.sy] 66)).heap.size := by simp
      go_wp2_with fail
      refine HC.out.mono ?_
      rintro e w1 ⟨rfl, hb1⟩
      have d1 : w1.cell? ⟨wr.heap.size, 1, none⟩ = some (.string f.dt) := (hb1.cell (p := ⟨wr.heap.size, 1, none⟩) hsf).trans (by simp)
      have HO1 := hdV (HOf.out.below hb1)
      have HB1 := hdV (hBf.out.trans (hb1.mono hBf.out.size))
      clear hb1 hbf HOf hBf HC HO HB c0 c1 c2
      cases own with
      | true =>
        have HTt : Hid (lsA (xs.take (i + 1)) = lsA (xs.take i)) := by show _ = _; rw [HT.out, if_pos rfl, List.append_nil]
        go_wp2_with fail
        refine ⟨⟨i + 1, L, by go_num, by omega, HO1, ?_, HB1⟩, by simp only [intOf]; omega⟩
        show _ = _
        rw [HTt.out]
        exact HL.out
      | false =>
        have HTt : Hid (lsA (xs.take (i + 1)) = lsA (xs.take i) ++ lsF f.dt) := by show _ = _; rw [HT.out, if_neg (by simp)]
        rw [if_neg (by simp)] at hcnt
        have hc2 : (lsF f.dt).length ≤ cntL (lsF f.dt) := Nat.le_add_right _ _
        have HWl := hdV (HWh.out w1 HB1.out f.dt hdt)
        go_wp2_with fail
        refine HWl.out.mono ?_
        rintro e w2 ⟨v2, M, rfl, hM, hOM, hb2⟩
        have hMl : M.length = (lsF f.dt).length := by rw [← hM, List.length_map]
        have HO2 := hdV (HO1.out.below hb2)
        have HOM := hdV hOM
        have HB2 := hdV (HB1.out.trans (hb2.mono HB1.out.size))
        have hs1 := HB1.out.size
        have hs2 := HB2.out.size
        have hlm : L.length + M.length ≤ 4000000 := by omega
        clear hb2 hOM HO1 HB1
        go_wp2_with (at_builtin; refine wpList_append_lists _ rfl _ _ rfl W0.heap.size w1.heap.size _ _ L M rfl HO2.out rfl HOM.out hs1 hlm hs2 ?_; intro v' w3 hown3 hgrow; have HO3 := hdV hown3; have HB3 := hdV (HB2.out.grown hgrow hs2 (owns_base HO2.out.row)); clear hown3 hgrow)
        refine ⟨⟨i + 1, L ++ M, by go_num, by omega, HO3, ?_, HB3⟩, by simp only [intOf]; omega⟩
        show _ = _
        rw [HTt.out, List.map_append, HL.out, hM]
    · have hA' : ¬ (i : Int) < (xs.length : Int) := by omega
      have hit : xs.take i = xs := List.take_of_length_le (by omega)
      rw [hit] at HL
      have hcn := HLA.out i
      rw [hit] at hcn
      have hcc : cntL (lsA xs) = (lsA xs).length + (lsA xs).flatten.length := rfl
      have hfl : allE L = (lsA xs).flatten := by rw [allE_flat, HL.out]
      have hLl : L.length = (lsA xs).length := by rw [← HL.out, List.length_map]
      obtain ⟨a3, c3, hv3, hlie, -, -⟩ := HO.out.lie
      subst hv3
      have HN := hdV (implNew_any a3 c3 L wr hlie (by omega) (by rw [hfl]; omega))
      rw [hfl] at HN
      have HLN := hdV (last_new (lsA xs).flatten)
      have hZl : (newE (lsA xs).flatten).length ≤ 1048576 := by unfold newE; exact Nat.le_trans (ddT_len _ _) (by omega)
      have HZs : Hid (∀ e ∈ newE (lsA xs).flatten, e.sq ≤ 72057594037927935) := fun e he => ((entOk_iff e).1 (lsA_ent (newE_mem he))).1.2.2.2
      generalize hZ : newE (lsA xs).flatten = Z at *
      generalize hLE : lastE (lsA xs).flatten = LE at *
      have HZ := hdV hZ
      have HLE := hdV hLE
      clear hZ hLE
      have hsz := HB.out.size
      clear hit HL hcn hcc hfl hLl hlie
      go_wp2_with fail
      refine HN.out.mono ?_
      rintro e w1 ⟨a1, c1, rfl, hr1, hb1⟩
      have HR1 := hdV (hr1.down hsz)
      have HB1 := hdV (HB.out.trans (hb1.mono hsz))
      have hs1 := hb1.size
      clear hr1 hb1 HN HO HB
      have hb2 : Below w1.heap.size w1 (w1.alloc (.cells #[.slice a1 Z.length c1, .int .i64 0] 28)) := (Below.refl _ _).alloc (Nat.le_refl _) _
      have hbx : (w1.alloc (.cells #[.slice a1 Z.length c1, .int .i64 0] 28)).heap[w1.heap.size]? = some (.cells #[.slice a1 Z.length c1, .int .i64 0] 28 (0, 0)) := World.heap_alloc_new _ _
      obtain ⟨⟨c0', c1'⟩, -⟩ := two_cellsV hbx
      go_wp2_with fail
      generalize w1.alloc (.cells #[.slice a1 Z.length c1, .int .i64 0] 28) = w2 at *
      go_loopw [30] (fun v30 W => ∃ j : Nat, v30 = .int .i64 (j : Int) ∧ j ≤ Z.length ∧ Hid (W.heap[w1.heap.size]? = some (.cells #[.slice a1 Z.length c1, .int .i64 (lastE (Z.take j))] 28 (0, 0))) ∧ Hid (Below w1.heap.size w1 W)) (fun v30 _ => Z.length - (intOf v30).toNat)
      case atStart => exact ⟨0, rfl, Nat.zero_le _, hbx, hb2⟩
      case round =>
        clear c0' c1' hbx hb2
        obtain ⟨j, rfl, hj, HX, HBj⟩ := hrel
        obtain ⟨⟨x0, x1⟩, z0, z1⟩ := two_cellsV HX.out
        by_cases hC : j < Z.length
        · have hC' : (j : Int) < (Z.length : Int) := by omega
          obtain ⟨b, off, hab, hbl, e0, e1, e2, e3⟩ := (HR1.out.lie.below HBj.out).at hC
          subst hab
          have HTk : Hid (lastE (Z.take (j + 1)) = max (lastE (Z.take j)) (Z.getD j en0).sq) := by show _ = _; rw [take_snocE Z j hC, lastE_snoc]
          generalize lastE (Z.take j) = lj at *
          generalize Z.getD j en0 = z at *
          have hlt := heap_lt HX.out
          go_wp2_with fail
          refine ⟨⟨j + 1, by go_num, by omega, ?_, ?_⟩, by simp only [intOf]; omega⟩
          · show _ = _
            rw [Below.heap_alloc _ _ _ (by simp; omega), heap_setCell_same _ _ _ _ _ _ HX.out, HTk.out]
            rfl
          · exact (HBj.out.setCell (p := ⟨w1.heap.size, 1, none⟩) (Nat.le_refl _) _).alloc (by simp; omega) _
        · have hC' : ¬ (j : Int) < (Z.length : Int) := by omega
          have hZt : Z.take j = Z := List.take_of_length_le (by omega)
          rw [hZt, HLN.out] at x1
          have hs0 := HS0.out
          have hbr : Below W0.heap.size W0 wr := HB1.out.trans (HBj.out.mono HB1.out.size)
          have hrb : wr.heap[w.heap.size + 1]? = some (.cells #[.slice none 0 0, .int .i64 0] 28 (0, 0)) := (hbr.block _ (by omega)).trans hr0
          obtain ⟨⟨r0, r1⟩, r2, r3⟩ := two_cellsV hrb
          have hbw := hb0.trans (hbr.mono hb0.size)
          have hre := HR1.out.below HBj.out
          have HRE := hdV hre
          have HBW := hdV hbw
          clear hre hbw hbr
          go_wp2_with fail
          refine bodyPost_ret (v := .agg #[.slice a1 Z.length c1, .int .i64 LE]) (by simp [results, Tryz.results23, go_sem, r0, r1, r2, r3]) rfl ?_
          have h1 := ((HRE.out.putV (b := w.heap.size + 1) (o := 0) (by omega) (.slice a1 Z.length c1)).putV (b := w.heap.size + 1) (o := 1) (by omega) (.int .i64 LE)).down (show w.heap.size ≤ W0.heap.size by omega)
          have h2 := (HBW.out.setCell (p := ⟨w.heap.size + 1, 0, none⟩) (by simp) (.slice a1 Z.length c1)).setCell (p := ⟨w.heap.size + 1, 1, none⟩) (by simp) (.int .i64 LE)
          rw [HZ.out, HLE.out]
          first | exact ⟨a1, c1, rfl, h1, h2⟩ | exact ⟨a1, ⟨c1, rfl⟩, h1, h2⟩
end Go.Proofs.YtgmfjninimebmaaGreatDoor
