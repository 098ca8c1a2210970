import Derived.Test.YtgennghhneckeaaWalkN
namespace Go.Proofs.Ytgennghhneckeaa
open Go.RowKit Go.Maps
set_option linter.unusedVariables false
set_option linter.unusedSimpArgs false

/-- The reader's lock, and all that was there but for it. -/
theorem rlock_ob (g mb : Nat) (q fu : Int) (w : World) (h : Ob w g 0 0 mb q fu) :
    Calls Try.prog 44 #[.pointer (some ⟨g, 0, none⟩)] w fun e w' => e = .returned (.tuple #[]) ∧ Ob w' g 0 1 mb q fu ∧ But [g] w.heap.size w w' ∧ w'.heap.size = w.heap.size := by
  refine (rlock_dir g mb q fu w h).mono ?_
  rintro e w' ⟨rfl, rfl⟩
  exact ⟨rfl, heap_setCell_same w g 4 _ _ (.int .i32 1) h, But.setCell w (by simp), by simp⟩
theorem runlock_ob (g mb : Nat) (q fu : Int) (u : FrameMode) (w : World) (h : Ob w g 0 1 mb q fu) :
    CallsD Try.prog 45 #[.pointer (some ⟨g, 0, none⟩)] u w fun e u' w' => u' = u ∧ (e = .returned (.tuple #[]) ∧ Ob w' g 0 0 mb q fu ∧ But [g] w.heap.size w w' ∧ w'.heap.size = w.heap.size) := by
  refine (runlock_dir g mb q fu u w h).mono ?_
  rintro e u' w' ⟨rfl, rfl, rfl⟩
  exact ⟨rfl, rfl, heap_setCell_same w g 4 _ _ (.int .i32 0) h, But.setCell w (by simp), by simp⟩

theorem cell_second3 (w : World) (o : Obj) (x y z : Value) (t : TypeId) : ∀ j u, [x, y, z][j]? = some u → ((w.alloc o).alloc (.cells #[x, y, z] t)).cell? ((⟨w.heap.size + 1, 0, none⟩ : Addr).add j) = some u := by
  intro j u hj
  rw [Go.WideShapes.add_plain]
  have e : (w.alloc o).heap.size = w.heap.size + 1 := by simp
  have hb : ((w.alloc o).alloc (.cells #[x, y, z] t)).heap[w.heap.size + 1]? = some (.cells #[x, y, z] t (0, 0)) := by rw [← e]; exact World.heap_alloc_new _ _
  simp only [World.cell?, hb]
  match j, hj with
  | 0, hj => simpa using hj
  | 1, hj => simpa using hj
  | 2, hj => simpa using hj

theorem lieN_kept {w w' : World} {a : Option Addr} {ns : List ByteArray} (h : LieN w a ns) (hb : ∀ b off, a = some ⟨b, off, none⟩ → b < w.heap.size → w'.heap[b]? = w.heap[b]?) (hs : w.heap.size ≤ w'.heap.size) : LieN w' a ns := by
  rcases h with rfl | ⟨b, off, rfl, hlt, hc⟩
  · exact .inl rfl
  · exact .inr ⟨b, off, rfl, Nat.lt_of_lt_of_le hlt hs, fun i hi => (World.cell?_of_block (a := ⟨b, off + i, none⟩) (hb b off rfl hlt)).trans (hc i hi)⟩

theorem Res.kept {w w' : World} {base cap : Nat} {a : Option Addr} {xs : List Fl} (h : Res w base a cap xs) (hb : ∀ k, base ≤ k → k < w.heap.size → w'.heap[k]? = w.heap[k]?) : Res w' base a cap xs := by
  rcases h with rfl | ⟨g, rfl, hg, hp⟩
  · exact .inl rfl
  · refine .inr ⟨g, rfl, hg, ?_⟩
    have hlt := hp.lt
    obtain ⟨cs, h1, h2⟩ := hp
    exact ⟨cs, (hb g hg hlt).trans h1, h2⟩

/-- Three cells laid twice. -/
theorem laid_twice {wr : World} {p : Nat} {t : TypeId} {x0 x1 x2 y0 y1 y2 v0 v1 v2 : Value} (h : wr.heap[p]? = some (.cells #[x0, x1, x2] t (0, 0))) :
    ((((((wr.setCell ⟨p, 0, none⟩ y0).setCell ⟨p, 1, none⟩ y1).setCell ⟨p, 2, none⟩ y2).setCell ⟨p, 0, none⟩ v0).setCell ⟨p, 1, none⟩ v1).setCell ⟨p, 2, none⟩ v2).drew.heap[p]? = some (.cells #[v0, v1, v2] t (0, 0)) := by
  have e1 := heap_setCell_same wr p 0 _ _ y0 h
  have e2 := heap_setCell_same _ p 1 _ _ y1 e1
  have e3 := heap_setCell_same _ p 2 _ _ y2 e2
  have e4 := heap_setCell_same _ p 0 _ _ v0 e3
  have e5 := heap_setCell_same _ p 1 _ _ v1 e4
  have e6 := heap_setCell_same _ p 2 _ _ v2 e5
  have e7 : ((((((wr.setCell ⟨p, 0, none⟩ y0).setCell ⟨p, 1, none⟩ y1).setCell ⟨p, 2, none⟩ y2).setCell ⟨p, 0, none⟩ v0).setCell ⟨p, 1, none⟩ v1).setCell ⟨p, 2, none⟩ v2).drew.heap = ((((((wr.setCell ⟨p, 0, none⟩ y0).setCell ⟨p, 1, none⟩ y1).setCell ⟨p, 2, none⟩ y2).setCell ⟨p, 0, none⟩ v0).setCell ⟨p, 1, none⟩ v1).setCell ⟨p, 2, none⟩ v2).heap := heap_drew _
  rw [e7, e6]
  simp

theorem laid_other (wr : World) (p k : Nat) (y0 y1 y2 v0 v1 v2 : Value) (h : k ≠ p) :
    ((((((wr.setCell ⟨p, 0, none⟩ y0).setCell ⟨p, 1, none⟩ y1).setCell ⟨p, 2, none⟩ y2).setCell ⟨p, 0, none⟩ v0).setCell ⟨p, 1, none⟩ v1).setCell ⟨p, 2, none⟩ v2).drew.heap[k]? = wr.heap[k]? := by
  rw [heap_drew, Below.heap_setCell _ _ _ _ h, Below.heap_setCell _ _ _ _ h, Below.heap_setCell _ _ _ _ h, Below.heap_setCell _ _ _ _ h, Below.heap_setCell _ _ _ _ h, Below.heap_setCell _ _ _ _ h]

set_option maxRecDepth 100000 in
set_option maxHeartbeats 2000000 in
theorem plain_any (g mb : Nat) (q fu : Int) (ys : List Fl) (w : World) (h : Ob w g 0 0 mb q fu) (hd : Dir w mb ys.length (fm ys)) (hr : Rise ys) (hf : Fits ys) (hlen : ys.length ≤ 1048576) :
    Calls Try.prog 30 #[.pointer (some ⟨g, 0, none⟩)] w fun e w' =>
      ∃ a cap, e = .returned (.agg #[.slice a ys.length cap, .int .i64 q, .int .i64 fu]) ∧ Res w' w.heap.size a cap ys ∧ Below w.heap.size w w' := by
  have HO : Hid (Ob w g 0 0 mb q fu) := h
  have hne := h.ne hd
  have hgl := h.lt
  have hml := hd.lt
  have hmk := make_cap ys.length hlen
  obtain ⟨i0, hi, hz0, hz1, hz2⟩ := info_parts iFile_info
  generalize hz : (#[.string ByteArray.empty, .string ByteArray.empty, .int .i64 0] : Array Value) = z at hmk
  have hbA : Below w.heap.size w (w.alloc (.cells #[.slice none 0 0, .int .i64 0, .int .i64 0] 25)) := (Below.refl _ _).alloc (Nat.le_refl _) _
  go_enter_defers Try.func30, Try.ntmps30
  go_wp2_with fail
  refine (rlock_ob g mb q fu _ (h.below hbA hgl)).mono ?_
  rintro e w1 ⟨rfl, hob1, hbut1, hsz1⟩
  have hbut : But [g] w.heap.size w w1 := (But.of hbA).trans (hbut1.mono hbA.size)
  have hd1 := dir_kept hd hbut hml (by simpa using hne.symm)
  have hs1 : w.heap.size < w1.heap.size := by have := hbut1.size; simp at this; omega
  have hp1 : w1.heap[w.heap.size]? = some (.cells #[.slice none 0 0, .int .i64 0, .int .i64 0] 25 (0, 0)) := (hbut1.block w.heap.size (by simp) (by simp; omega)).trans (World.heap_alloc_new _ _)
  obtain ⟨c6, c7, c8, z8⟩ := hob1.cells
  clear hbut1 hsz1 hbA h hd
  clear hz
  go_wp2_with (at_len; refine wpList_len_dir _ rfl _ rfl rfl hd1 ?_)
  have hbM : Below w1.heap.size w1 (w1.alloc (.cells (madeCells z (ys.length * 3)) 31)) := (Below.refl _ _).alloc (Nat.le_refl _) _
  refine (names_any g mb 0 1 q fu ys _ (hob1.below hbM hob1.lt) (hd1.below hbM hd1.lt) hr hlen).mono ?_
  rintro e w3 ⟨a, cap, rfl, hlie, hbs, hb3⟩
  have hown3 : w3.ownsRow w1.heap.size 31 3 (.slice (some ⟨w1.heap.size, 0, none⟩) 0 ys.length) 0 (cellsF (ys.take 0)) := by
    have := owns_made w1 ys.length hlen z w1.heap.size (Nat.le_refl _)
    refine ⟨this.1, ?_⟩
    rcases this.2 with ⟨h0, _⟩ | ⟨g', cap', cur, e1, e2, e3, e4⟩
    · cases h0
    · refine .inr ⟨g', cap', cur, e1, e2, ?_, e4⟩
      have hg' : g' = w1.heap.size := by cases e1; rfl
      rw [hb3.block g' (by simp; omega)]
      exact e3
  have hb13 : Below w1.heap.size w1 w3 := hbM.trans (hb3.mono hbM.size)
  have hA3 : Hid (∀ b off, a = some ⟨b, off, none⟩ → (Value.slice (some ⟨w1.heap.size, 0, none⟩) 0 ys.length).ownBlock ≠ some b) := fun b off e => by
    have := hbs b off e
    simp at this
    simp [Value.ownBlock]
    omega
  clear hmk hb3 hbM hbs
  go_wp2_with fail
  go_loopw [3, 23] (fun v i wr => ∃ k : Nat, k ≤ ys.length ∧ i = .int .i64 k ∧ wr.ownsRow w1.heap.size 31 3 v k (cellsF (ys.take k)) ∧ LieN wr a (ys.map Fl.nm) ∧ Hid (∀ b off, a = some ⟨b, off, none⟩ → v.ownBlock ≠ some b) ∧ Below w1.heap.size w1 wr) (fun _ i _ => ys.length - (intOf i).toNat)
  case atStart => exact ⟨0, Nat.zero_le _, rfl, hown3, hlie, hA3, hb13⟩
  case round =>
    clear hown3 hlie hA3 hb13
    obtain ⟨k, hk, rfl, hown, hlie, hA, hb⟩ := hrel
    have hobr := hob1.below hb hob1.lt
    have hdr := hd1.below hb hd1.lt
    obtain ⟨d6, d7, d8, y8⟩ := hobr.cells
    by_cases hlt : k < ys.length
    · obtain ⟨b, off, rfl, hbl, n0⟩ := hlie.at (i := k) (by simpa using hlt)
      have e0 : (ys.map Fl.nm).getD k ByteArray.empty = (ys.getD k fl0).nm := by simp [List.getD, hlt]
      rw [e0] at n0
      have hfk := hf.at hlt
      have hlk := hdr.look0 hfk.1
      rw [fm_at hr hlt] at hlk
      simp only [Option.getD_some] at hlk
      have HT : Hid (cellsF (ys.take (k + 1)) = cellsF (ys.take k) ++ [.string (ys.getD k fl0).nm, .string (ys.getD k fl0).dt, .int .i64 (ys.getD k fl0).sy]) := by show _ = _; rw [take_snoc ys k hlt, cellsF_snoc]
      generalize ys.getD k fl0 = f at *
      have hub : u3.ownBlock ≠ some b := hA.out b off rfl
      clear e0 hd1 hdr hob1 c6 c7 c8 z8 d7 d8 y8 hf hr
      go_wp2_with (at_builtin; refine wpList_append_own_at _ rfl _ _ 23 rfl w1.heap.size 31 i0 _ 3 40 Try.underlying23 hi hz0 hz1 hz2 rfl (by decide) _ _ _ rfl ((hown.alloc _).alloc _) ⟨wr.heap.size + 1, 0, none⟩ 1 1 [.string f.nm, .string f.dt, .int .i64 f.sy] rfl rfl (cell_second3 _ _ _ _ _ _) (fun x hx => by simp at hx; rcases hx with rfl | rfl | rfl <;> rfl) (by unfold maxLen; omega) (by omega) (by have := hb.size; simp; omega) ?_; intro v' w4 hown' hgrow hnil hloc)
      have hbs := hb.size
      have hkeep : w4.heap[b]? = wr.heap[b]? := by
        rw [hgrow.block b (by simp; omega) (fun e => hub e.symm), Below.heap_alloc _ _ _ (by simp; omega), Below.heap_alloc _ _ _ hbl]
      refine ⟨⟨k + 1, by omega, by go_num, ?_, ?_, ?_, ?_⟩, by simp [intOf]; omega⟩
      · rw [HT.out]; exact hown'
      · refine lieN_kept hlie (fun b' off' e _ => ?_) ?_
        · simp only [Option.some.injEq, Addr.mk.injEq] at e
          rw [← e.1]; exact hkeep
        · have := hgrow.size
          simp at this
          omega
      · intro b' off' e
        simp only [Option.some.injEq, Addr.mk.injEq] at e
        rw [← e.1]
        rcases hloc with e1 | e1
        · rw [e1]; exact hub
        · rw [e1]
          simp
          omega
      · exact (((hb.alloc (by omega) _).alloc (by simp; omega) _)).grown hgrow (by simp; omega) (owns_base hown)
    · obtain rfl : k = ys.length := by omega
      rw [List.take_length] at hown
      obtain ⟨-, a2, cap2, hv, hres⟩ := res_of_owns hown
      subst hv
      have hpr : wr.heap[w.heap.size]? = some (.cells #[.slice none 0 0, .int .i64 0, .int .i64 0] 25 (0, 0)) := (hb.block _ hs1).trans hp1
      have x0 : wr.cell? ⟨w.heap.size, 0, none⟩ = some (.slice none 0 0) := by simp [World.cell?, hpr]
      have x1 : wr.cell? ⟨w.heap.size, 1, none⟩ = some (.int .i64 0) := by simp [World.cell?, hpr]
      have x2 : wr.cell? ⟨w.heap.size, 2, none⟩ = some (.int .i64 0) := by simp [World.cell?, hpr]
      have f0 : wr.frozen? ⟨w.heap.size, 0, none⟩ = false := by simp [World.frozen?, hpr]
      have f1 : wr.frozen? ⟨w.heap.size, 1, none⟩ = false := by simp [World.frozen?, hpr]
      have f2 : wr.frozen? ⟨w.heap.size, 2, none⟩ = false := by simp [World.frozen?, hpr]
      have hgp : g ≠ w.heap.size := by omega
      have hpg : w.heap.size ≠ g := by omega
      clear c6 c7 c8 z8 hd1 hlie hA
      go_wp2_with fail
      go_region_held3 (fun w' => w'.cell? ⟨g, 7, none⟩ = some (.int .i64 q) ∧ w'.cell? ⟨g, 8, none⟩ = some (.int .i64 fu)) (simp [go_sem, *, World.cell?_setCell_far]) (fail)
      go_wp2
      have hbel : ∀ (v0 v1 v2 v3 v4 v5 : Value), Below w.heap.size wr ((((((wr.setCell ⟨w.heap.size, 0, none⟩ v0).setCell ⟨w.heap.size, 1, none⟩ v1).setCell ⟨w.heap.size, 2, none⟩ v2).setCell ⟨w.heap.size, 0, none⟩ v3).setCell ⟨w.heap.size, 1, none⟩ v4).setCell ⟨w.heap.size, 2, none⟩ v5).drew := fun v0 v1 v2 v3 v4 v5 =>
        (((((((Below.refl w.heap.size wr).setCell (Nat.le_refl _) v0).setCell (Nat.le_refl _) v1).setCell (Nat.le_refl _) v2).setCell (Nat.le_refl _) v3).setCell (Nat.le_refl _) v4).setCell (Nat.le_refl _) v5).drew
      have hlt2 : ((((((wr.setCell ⟨w.heap.size, 0, none⟩ (.slice none 0 0)).setCell ⟨w.heap.size, 1, none⟩ (.int .i64 0)).setCell ⟨w.heap.size, 2, none⟩ (.int .i64 0)).setCell ⟨w.heap.size, 0, none⟩ (.slice a2 ys.length cap2)).setCell ⟨w.heap.size, 1, none⟩ (.int .i64 q)).setCell ⟨w.heap.size, 2, none⟩ (.int .i64 fu)).drew.heap[w.heap.size]? = some (.cells #[.slice a2 ys.length cap2, .int .i64 q, .int .i64 fu] 25 (0, 0)) := laid_twice (x0 := .slice none 0 0) (x1 := .int .i64 0) (x2 := .int .i64 0) (y0 := .slice none 0 0) (y1 := .int .i64 0) (y2 := .int .i64 0) (v0 := .slice a2 ys.length cap2) (v1 := .int .i64 q) (v2 := .int .i64 fu) hpr
      have hbelW := hbel (.slice none 0 0) (.int .i64 0) (.int .i64 0) (.slice a2 ys.length cap2) (.int .i64 q) (.int .i64 fu)
      have hoth := fun k => laid_other wr w.heap.size k (.slice none 0 0) (.int .i64 0) (.int .i64 0) (.slice a2 ys.length cap2) (.int .i64 q) (.int .i64 fu)
      clear hbel
      generalize ((((((wr.setCell ⟨w.heap.size, 0, none⟩ (.slice none 0 0)).setCell ⟨w.heap.size, 1, none⟩ (.int .i64 0)).setCell ⟨w.heap.size, 2, none⟩ (.int .i64 0)).setCell ⟨w.heap.size, 0, none⟩ (.slice a2 ys.length cap2)).setCell ⟨w.heap.size, 1, none⟩ (.int .i64 q)).setCell ⟨w.heap.size, 2, none⟩ (.int .i64 fu)).drew = wF at *
      refine leaves_cons (f := 45) (args := #[.pointer (some ⟨g, 0, none⟩)]) (by simp) (by simp [go_sem]) ?_
      refine (runlock_ob g mb q fu .returning _ (hobr.below hbelW hgl)).mono ?_
      rintro e u' w5 ⟨rfl, rfl, hob5, hbut5, hsz5⟩
      have hbrs := hb.size
      have hbrf := hbelW.size
      have hp5 : w5.heap[w.heap.size]? = some (.cells #[.slice a2 ys.length cap2, .int .i64 q, .int .i64 fu] 25 (0, 0)) := (hbut5.block w.heap.size (by omega) (by simpa using hpg)).trans hlt2
      have y0 : w5.cell? ⟨w.heap.size, 0, none⟩ = some (.slice a2 ys.length cap2) := by simp [World.cell?, hp5]
      have y1 : w5.cell? ⟨w.heap.size, 1, none⟩ = some (.int .i64 q) := by simp [World.cell?, hp5]
      have y2 : w5.cell? ⟨w.heap.size, 2, none⟩ = some (.int .i64 fu) := by simp [World.cell?, hp5]
      refine ⟨.agg #[.slice a2 ys.length cap2, .int .i64 q, .int .i64 fu], by simp [results, Try.results30, go_sem, y0, y1, y2], a2, cap2, rfl, ?_, ?_⟩
      · refine (hres.kept (fun k hk1 hk2 => ?_)).base (by omega)
        rw [hbut5.block k (by omega) (by simp; omega)]
        exact hoth k (by omega)
      · have hbut6 := hbut5.mono (B' := w.heap.size) (by omega)
        have h1 : But [g] w.heap.size w wr := hbut.trans (But.of (hb.mono (Nat.le_of_lt hs1)))
        have h2 : But [g] w.heap.size wr w5 := (But.of hbelW).trans hbut6
        have hall : But [g] w.heap.size w w5 := h1.trans h2
        refine hall.below (fun k hk hk2 => ?_)
        simp at hk
        subst hk
        exact hob5.trans HO.out.symm
end Go.Proofs.Ytgennghhneckeaa
namespace Go.Proofs.Ytgennghhneckeaa
open Go.RowKit Go.Maps
set_option linter.unusedVariables false
set_option linter.unusedSimpArgs false

/-- The files but one. -/
def wo (xs : List Fl) (s : ByteArray) : List Fl := xs.filter fun f => !(f.nm.toList == s.toList)

theorem wo_length (xs : List Fl) (s : ByteArray) : (wo xs s).length ≤ xs.length := List.length_filter_le _ _
theorem wo_snoc (xs : List Fl) (s : ByteArray) (f : Fl) : wo (xs ++ [f]) s = if (f.nm.toList == s.toList) = true then wo xs s else wo xs s ++ [f] := by
  unfold wo
  rw [List.filter_append]
  cases h : (f.nm.toList == s.toList) <;> simp [List.filter_cons, h]

/-- A row that the call owns stays owned while nothing from its base on is touched. -/
theorem owns_lit0 (w : World) (t : TypeId) (B : Nat) (hB : B ≤ w.heap.size) : (w.alloc (.cells #[] t)).ownsRow B t 3 (.slice (some ⟨w.heap.size, 0, none⟩) 0 0) 0 (cellsF []) :=
  ⟨rfl, .inr ⟨w.heap.size, 0, #[], rfl, hB, World.heap_alloc_new _ _, Nat.le_refl _, Nat.zero_le _, rfl, rfl⟩⟩

theorem cell_first3 (w : World) (x y z : Value) (t : TypeId) : ∀ j u, [x, y, z][j]? = some u → (w.alloc (.cells #[x, y, z] t)).cell? ((⟨w.heap.size, 0, none⟩ : Addr).add j) = some u := by
  intro j u hj
  rw [Go.WideShapes.add_plain]
  have hb : (w.alloc (.cells #[x, y, z] t)).heap[w.heap.size]? = some (.cells #[x, y, z] t (0, 0)) := World.heap_alloc_new _ _
  simp only [World.cell?, hb]
  match j, hj with
  | 0, hj => simpa using hj
  | 1, hj => simpa using hj
  | 2, hj => simpa using hj

set_option maxRecDepth 100000 in
set_option maxHeartbeats 1000000 in
theorem without_any (a : Option Addr) (cap : Nat) (xs : List Fl) (s : ByteArray) (w : World) (hx : Lie w a xs) (hlen : xs.length ≤ 1048576) :
    Calls Try.prog 40 #[.slice a xs.length cap, .string s] w fun e w' =>
      ∃ a' cap', e = .returned (.slice a' (wo xs s).length cap') ∧ Res w' w.heap.size a' cap' (wo xs s) ∧ Below w.heap.size w w' := by
  obtain ⟨i0, hi, hz0, hz1, hz2⟩ := info_parts iFile_info
  go_enter Try.func40, Try.ntmps40
  go_wp2
  go_loopw [5, 6] (fun v i wr => ∃ k : Nat, k ≤ xs.length ∧ i = .int .i64 k ∧ wr.ownsRow w.heap.size 31 3 v (wo (xs.take k) s).length (cellsF (wo (xs.take k) s)) ∧ Below w.heap.size w wr) (fun _ i _ => xs.length - (intOf i).toNat)
  case atStart => exact ⟨0, Nat.zero_le _, rfl, owns_lit0 w _ _ (Nat.le_refl _), (Below.refl _ _).alloc (Nat.le_refl _) _⟩
  case round =>
    obtain ⟨k, hk, rfl, hown, hb⟩ := hrel
    by_cases hlt : k < xs.length
    · obtain ⟨b, off, rfl, hbl, c0, c1, c2⟩ := (hx.below hb).at hlt
      have HS : Hid (wo (xs.take (k + 1)) s = if ((xs.getD k fl0).nm.toList == s.toList) = true then wo (xs.take k) s else wo (xs.take k) s ++ [xs.getD k fl0]) := by show _ = _; rw [take_snoc xs k hlt, wo_snoc]
      have hwl : (wo (xs.take k) s).length ≤ k := Nat.le_trans (wo_length _ _) (List.length_take_le _ _)
      generalize xs.getD k fl0 = f at *
      have hbs := hb.size
      cases he : (f.nm.toList == s.toList) with
      | true =>
        have HE : Hid (wo (xs.take (k + 1)) s = wo (xs.take k) s) := by show _ = _; rw [HS.out, if_pos he]
        clear HS
        go_wp2
        exact ⟨⟨k + 1, by omega, by go_num, by rw [HE.out]; exact hown, hb⟩, by simp [intOf]; omega⟩
      | false =>
        have HE : Hid (wo (xs.take (k + 1)) s = wo (xs.take k) s ++ [f]) := by show _ = _; rw [HS.out, if_neg (by simp [he])]
        clear HS
        go_wp2_with (at_builtin; refine wpList_append_own _ rfl _ _ 23 rfl w.heap.size 31 i0 _ 3 40 Try.underlying23 hi hz0 hz1 hz2 rfl (by decide) _ _ _ rfl (hown.alloc _) ⟨wr.heap.size, 0, none⟩ 1 1 [.string f.nm, .string f.dt, .int .i64 f.sy] rfl rfl (cell_first3 _ _ _ _ _) (fun x hx => by simp at hx; rcases hx with rfl | rfl | rfl <;> rfl) (by unfold maxLen; omega) (by omega) (by simp; omega) ?_; intro v' w4 hown' hgrow hnil)
        refine ⟨⟨k + 1, by omega, by go_num, ?_, ?_⟩, by simp [intOf]; omega⟩
        · rw [HE.out, cellsF_snoc, List.length_append]; exact hown'
        · exact (hb.alloc hbs _).grown hgrow (by simp; omega) (owns_base hown)
    · obtain rfl : k = xs.length := by omega
      rw [List.take_length] at hown
      obtain ⟨-, a2, cap2, hv, hres⟩ := res_of_owns hown
      subst hv
      go_wp2
      go_ret
      exact ⟨a2, cap2, rfl, hres, hb⟩
end Go.Proofs.Ytgennghhneckeaa
