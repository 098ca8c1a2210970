
import Derived.Test.YtnnhdfplbhdcaacCrImpl
import Derived.Deep.RegionLawGrows
import Derived.Deep.RegionHeldLaw
namespace Go.Proofs.Ytnnhdfplbhdcaac
open Go.RowKit Go.Maps
set_option linter.unusedVariables false
set_option linter.unusedSimpArgs false

/-- append to a row that the call owns, as one step of a region that draws. -/
theorem step_append_own {P : Program} {ops : Array Oper} {o : Oper} {a : Act} {w : World} {K : Act → World → Prop} {Q : Exit → Act → World → Prop} {E : Prop}
    (hg : o.guard = none) (s x : Operand) (t : TypeId) (ho : o.op = Op.call { callee := Callee.builtin Builtin.append, args := #[s, x], argTypes := #[t, t] })
    (base : Nat) (e : TypeId) (i : TypeInfo) (z : Value) (size bytes : Nat) (ht : P.underlying t = some (.slice e)) (hi : P.info? e = some i) (hz : i.zero = some z)
    (hsize : i.size = size) (hby : i.bytes = bytes) (hzs : z.cells.size = size) (hsz : 0 < size)
    (v : Value) (n : Nat) (xs : List Value) (hs : a.eval s = v) (hown : w.ownsRow base e size v n xs)
    (ad : Addr) (m c : Nat) (news : List Value) (hx : a.eval x = .slice (some ad) m c) (hl : news.length = m * size) (hnews : ∀ j u, news[j]? = some u → w.cell? (ad.add j) = some u) (h1 : ∀ u ∈ news, u.oneCell' = true)
    (h63 : n + m ≤ maxLen) (hbytes : (n + m) * bytes ≤ 140737488355328) (hbase : base ≤ w.heap.size)
    (h : ∀ v' w', w'.ownsRow base e size v' (n + m) (xs ++ news) → w.grownBy w' v.ownBlock → (v' = .slice none 0 0 ↔ v = .slice none 0 0 ∧ m = 0) → K (a.put o.dst v') w') :
    if Region.wanted o (yielded ops a.tmps) = true then Oper.wp P o a w K Q else E := by
  have hw : Region.wanted o (yielded ops a.tmps) = true := by simp [Region.wanted, hg]
  rw [if_pos hw]
  exact wp_append_own w s x t ho base e i z size bytes ht hi hz hsize hby hzs hsz v n xs hs hown ad m c news hx hl hnews h1 h63 hbytes hbase h

theorem owns_succ {W : World} {base : Nat} {e : TypeId} {size : Nat} {v : Value} {k : Nat} {xs : List Value} (h : W.ownsRow base e size v (k + 1) xs) : ∃ g cap, v = .slice (some ⟨g, 0, none⟩) (k + 1) cap := by
  rcases h.2 with ⟨_, h0⟩ | ⟨g, cap, _, rfl, _⟩
  · omega
  · exact ⟨g, cap, rfl⟩
theorem owns_lt {w : World} {B n size : Nat} {e : TypeId} {v : Value} {xs : List Value} (h : w.ownsRow B e size v n xs) : ∀ k, v.ownBlock = some k → k < w.heap.size := by
  intro k hk
  rcases h.2 with ⟨rfl, _⟩ | ⟨g, cap, cur, rfl, hg, hb, _⟩
  · cases hk
  · simp [Value.ownBlock] at hk
    subst hk
    by_cases hlt : g < w.heap.size
    · exact hlt
    · rw [Array.getElem?_eq_none (by omega)] at hb; cases hb
theorem owns_other {w : World} {B n size p : Nat} {e : TypeId} {v u : Value} {xs : List Value} (h : w.ownsRow B e size v n xs) (hp : p < B) (o : Nat) : (w.setCell ⟨p, o, none⟩ u).ownsRow B e size v n xs := by
  obtain ⟨h1, h2⟩ := h
  refine ⟨h1, ?_⟩
  rcases h2 with h2 | ⟨g, cap, cur, rfl, hg, hb, hrest⟩
  · exact .inl h2
  · exact .inr ⟨g, cap, cur, rfl, hg, by rw [Below.heap_setCell _ _ _ _ (by simp; omega)]; exact hb, hrest⟩

/-- The first k files behind the crash. -/
def cl (xs : List Fl) (ks : List Int) (k : Nat) : List Fl := (List.range k).map fun i => crFl ks i (xs.getD i fl0)
theorem cl_length (xs : List Fl) (ks : List Int) (k : Nat) : (cl xs ks k).length = k := by simp [cl]
theorem cl_succ (xs : List Fl) (ks : List Int) (k : Nat) : cl xs ks (k + 1) = cl xs ks k ++ [crFl ks k (xs.getD k fl0)] := by simp [cl, List.range_succ]
theorem cl_crs (xs : List Fl) (ks : List Int) : cl xs ks xs.length = crs xs ks xs.length := by
  refine List.ext_getElem (by rw [cl_length, crs_length]) fun j h1 h2 => ?_
  rw [cl_length] at h1
  have e : (crs xs ks xs.length)[j] = (crs xs ks xs.length).getD j fl0 := by simp [List.getD, h2]
  rw [e, crs_at xs ks _ j h1, if_pos h1]
  simp [cl]

set_option maxRecDepth 100000 in
set_option maxHeartbeats 1000000 in
theorem specCrash_bad (a : Option Addr) (cap : Nat) (xs : List Fl) (q fu : Int) (ak : Option Addr) (ck : Nat) (ks : List Int) (w : World) (hx : Lie w a xs) (hf : Fits xs) (hlen : xs.length ≤ 1048576) (hd : datas xs ≤ 1048576) (hv : vldB xs q fu = false) :
    Calls Try.prog 5 #[fsV a xs.length cap q fu, .slice ak ks.length ck] w fun e w' => e = .returned fsZ ∧ Below w.heap.size w w' := by
  have hb0 : Below w.heap.size w ((w.alloc (.cells #[.slice a xs.length cap, .int .i64 q, .int .i64 fu] 29)).alloc (.cells #[.slice none 0 0, .int .i64 0, .int .i64 0] 29)) := ((Below.refl _ _).alloc (Nat.le_refl _) _).alloc (by simp) _
  go_enter Try.func5, Try.ntmps5
  go_wp2_with fail
  refine (specValid_any a cap xs q fu _ (hx.below hb0) hf hlen hd).mono ?_
  rintro e w1 ⟨rfl, hb1⟩
  rw [hv]
  have hbb := hb0.trans (hb1.mono hb0.size)
  obtain ⟨hc, hz⟩ := bcell hb1
  have hsz := hb1.size
  simp at hsz
  clear hx hb1 hb0
  go_wp2
  refine bodyPost_ret (v := fsZ) (by simp [results, Try.results5, go_sem, hc]) rfl ⟨rfl, ?_⟩
  exact hbb.trans (three_below w1 _ _ _ (by omega))

set_option maxRecDepth 100000 in
set_option maxHeartbeats 2000000 in
theorem specCrash_ok (a : Option Addr) (cap : Nat) (xs ys : List Fl) (q fu : Int) (ak : Option Addr) (ck : Nat) (ks : List Int) (w : World) (hx : Lie w a xs) (hf : Fits xs) (hlen : xs.length ≤ 1048576) (hd : datas xs ≤ 1048576) (hv : vldB xs q fu = true) (hl : LieI w ak ks) (hn : ks.length ≤ 1048576)
    (HY : Hid (ys = crs xs ks xs.length)) :
    Calls Try.prog 5 #[fsV a xs.length cap q fu, .slice ak ks.length ck] w fun e w' => ∃ a' cap', e = .returned (fsV a' ys.length cap' q (-1)) ∧ Res w' w.heap.size a' cap' ys ∧ Below w.heap.size w w' := by
  have hb0 : Below w.heap.size w ((w.alloc (.cells #[.slice a xs.length cap, .int .i64 q, .int .i64 fu] 29)).alloc (.cells #[.slice none 0 0, .int .i64 0, .int .i64 0] 29)) := ((Below.refl _ _).alloc (Nat.le_refl _) _).alloc (by simp) _
  have hsy := sy_of_vld hv
  replace hsy : Hid _ := hsy
  obtain ⟨i0, hi, hz0, hz1, hz2⟩ := info_parts iFile_info
  go_enter Try.func5, Try.ntmps5
  go_wp2_with fail
  refine (specValid_any a cap xs q fu _ (hx.below hb0) hf hlen hd).mono ?_
  rintro e w1 ⟨rfl, hb1⟩
  rw [hv]
  have hbb := hb0.trans (hb1.mono hb0.size)
  have hP1 : w1.heap[w.heap.size]? = some (.cells #[.slice a xs.length cap, .int .i64 q, .int .i64 fu] 29 (0, 0)) := (hb1.block w.heap.size (by simp; omega)).trans ((Below.heap_alloc _ _ _ (by simp)).trans (World.heap_alloc_new _ _))
  have hR1 : w1.heap[w.heap.size + 1]? = some (.cells #[.slice none 0 0, .int .i64 0, .int .i64 0] 29 (0, 0)) := by
    rw [hb1.block _ (by simp)]
    have := World.heap_alloc_new (w.alloc (.cells #[.slice a xs.length cap, .int .i64 q, .int .i64 fu] 29)) (.cells #[.slice none 0 0, .int .i64 0, .int .i64 0] 29)
    have e : (w.alloc (.cells #[.slice a xs.length cap, .int .i64 q, .int .i64 fu] 29)).heap.size = w.heap.size + 1 := by simp
    rw [e] at this
    exact this
  have hs1 : w.heap.size + 1 < w1.heap.size := by have := hb1.size; simp at this; omega
  have hs0 : w.heap.size < w1.heap.size := by omega
  have hx1 := hx.below hbb
  have hl1 := hl.below hbb
  obtain ⟨⟨p0, p1, p2⟩, -⟩ := three_cells hP1
  clear hx hl hb1 hb0 hv
  go_wp2_with fail
  have hb2 : Below w1.heap.size w1 (w1.alloc (.cells #[.slice none 0 0, .int .i64 q, .int .i64 (-1)] 29)) := (Below.refl _ _).alloc (Nat.le_refl _) _
  go_loopw [6] (fun y wr => ∃ (k : Nat) (v : Value), y = .int .i64 k ∧ k ≤ xs.length ∧ wr.heap[w1.heap.size]? = some (.cells #[v, .int .i64 q, .int .i64 (-1)] 29 (0, 0)) ∧ wr.ownsRow (w1.heap.size + 1) 41 3 v k (cellsF (cl xs ks k)) ∧ Below w1.heap.size w1 wr) (fun y _ => xs.length - (intOf y).toNat)
  case atStart => exact ⟨0, .slice none 0 0, rfl, by omega, World.heap_alloc_new _ _, World.ownsRow_nil _ _ _ _, hb2⟩
  case round =>
    obtain ⟨k, v, rfl, hk, hbox, hown, hb⟩ := hrel
    have hbs := hb.size
    have hws : w1.heap.size < wr.heap.size := by
      by_cases hlt : w1.heap.size < wr.heap.size
      · exact hlt
      · rw [Array.getElem?_eq_none (by omega)] at hbox; cases hbox
    have q0 := (hb.cell (p := ⟨w.heap.size, 0, none⟩) hs0).trans p0
    obtain ⟨⟨o0, o1, o2⟩, z0, z1, z2⟩ := three_cells hbox
    by_cases hlt : k < xs.length
    · obtain ⟨b, off, rfl, hbl, c0, c1, c2⟩ := (hx1.below hb).at hlt
      have hfk := hf.at hlt
      have hsk := hsy.out k hlt
      have HC : Hid (cl xs ks (k + 1) = cl xs ks k ++ [crFl ks k (xs.getD k fl0)]) := cl_succ xs ks k
      have hik : (k : Int) < (xs.length : Int) := by omega
      generalize xs.getD k fl0 = f at *
      obtain ⟨nm, dt, sy⟩ := f
      unfold maxLen at hfk
      simp only at hfk hsk c0 c1 c2
      by_cases hkk : k < ks.length
      · obtain ⟨bk, offk, rfl, hbk, ckk⟩ := (hl1.below hb).at hkk
        have HK : Hid (kb ks k ((dt.size : Int) - sy) = max 0 (min (ks.getD k 0) ((dt.size : Int) - sy))) := by show _ = _; unfold kb; rw [if_pos hkk]
        have hkk' : (k : Int) < (ks.length : Int) := by omega
        generalize ks.getD k 0 = kk at *
        by_cases hk0 : 0 < kk
        · by_cases hgt : (dt.size : Int) - sy < kk
          · have HF0 : Hid (crFl ks k ⟨nm, dt, sy⟩ = ⟨nm, dt.extract 0 (sy + ((dt.size : Int) - sy)).toNat, sy + ((dt.size : Int) - sy)⟩) := by
              show _ = _
              have e : kb ks k ((dt.size : Int) - sy) = (dt.size : Int) - sy := by rw [HK.out]; omega
              simp only [crFl, crN, e]
            go_wp2_with fail
            obtain ⟨N, hNe⟩ : ∃ N, (dt.size : Int) - sy = N := ⟨_, rfl⟩
            rw [hNe] at HF0 ⊢
            have HF := HF0
            have hN0 : 0 ≤ N := by omega
            have hN1 : sy + N ≤ dt.size := by omega
            clear hNe HF0
            have f0 : (wr.alloc (.cells #[.string nm, .string dt, .int .i64 sy] 41)).cell? ⟨wr.heap.size, 0, none⟩ = some (.string nm) := by simp
            have f1 : (wr.alloc (.cells #[.string nm, .string dt, .int .i64 sy] 41)).cell? ⟨wr.heap.size, 1, none⟩ = some (.string dt) := by simp
            have f2 : (wr.alloc (.cells #[.string nm, .string dt, .int .i64 sy] 41)).cell? ⟨wr.heap.size, 2, none⟩ = some (.int .i64 sy) := by simp
            have HO : Hid (((wr.alloc (.cells #[.string nm, .string dt, .int .i64 sy] 41)).alloc (.cells #[.string nm, .string (dt.extract 0 (sy + N).toNat), .int .i64 (sy + N)] 41)).drew.ownsRow (w1.heap.size + 1) 41 3 v k (cellsF (cl xs ks k))) := (hown.alloc _).alloc _
            have HN : Hid (∀ j u, [Value.string nm, .string (dt.extract 0 (sy + N).toNat), .int .i64 (sy + N)][j]? = some u → ((wr.alloc (.cells #[.string nm, .string dt, .int .i64 sy] 41)).alloc (.cells #[.string nm, .string (dt.extract 0 (sy + N).toNat), .int .i64 (sy + N)] 41)).drew.cell? ((⟨wr.heap.size + 1, 0, none⟩ : Addr).add j) = some u) := cell_second3 _ _ _ _ _ _
            have hwr : IntKind.i64.wrap (sy + N) = sy + N := by rw [IntKind.wrap_i64]; omega
            have hr1 : 0 ≤ sy + N := by omega
            have hr2 : sy + N ≤ (dt.size : Int) := by omega
            have HB : Hid (∀ g, v.ownBlock = some g → w1.heap.size + 1 ≤ g ∧ g < wr.heap.size) := fun g hg => ⟨owns_base hown g hg, owns_lt hown g hg⟩
            refine wp_region_noPanic ?_
            refine wp_region_held_drew (S := (fun w' => w'.cell? ⟨wr.heap.size, 0, none⟩ = some (.string nm) ∧ w'.cell? ⟨wr.heap.size, 1, none⟩ = some (.string dt) ∧ w'.cell? ⟨wr.heap.size, 2, none⟩ = some (.int .i64 sy))) (by kernel_rfl) ?_ (fun hHeld => ?_)
            · (try dsimp only)
              (simp [go_sem, *])
            refine wpAnyH_take (i := 0) (v := ?_) rfl (by kernel_rfl) (by kernel_rfl) (by kernel_rfl) (fun _ _ _ h => h) (Or.inl ⟨by rfl, ?_⟩) (by assumption) ?_
            rotate_left
            · intro w' hSw
              (try dsimp only at hSw)
              go_simp
              try with_reducible rfl
            simp only [Act.put, List.setIfInBounds_toArray, List.set_cons_zero, List.set_cons_succ]
            refine wpAnyH_take (i := 2) (v := ?_) rfl (by kernel_rfl) (by kernel_rfl) (by kernel_rfl) (fun _ _ _ h => h) (Or.inl ⟨by rfl, ?_⟩) (by assumption) ?_
            rotate_left
            · intro w' hSw
              (try dsimp only at hSw)
              go_simp
              try with_reducible rfl
            simp only [Act.put, List.setIfInBounds_toArray, List.set_cons_zero, List.set_cons_succ]
            refine wpAnyH_take (i := 3) (v := ?_) rfl (by kernel_rfl) (by kernel_rfl) (by kernel_rfl) (fun _ _ _ h => h) (Or.inl ⟨by rfl, ?_⟩) (by assumption) ?_
            rotate_left
            · intro w' hSw
              (try dsimp only at hSw)
              go_simp
              try with_reducible rfl
            simp only [Act.put, List.setIfInBounds_toArray, List.set_cons_zero, List.set_cons_succ]
            refine wpAnyH_take (i := 4) (v := ?_) rfl (by kernel_rfl) (by kernel_rfl) (by kernel_rfl) (fun _ _ _ h => h) (Or.inl ⟨by rfl, ?_⟩) (by assumption) ?_
            rotate_left
            · intro w' hSw
              (try dsimp only at hSw)
              go_simp
              try with_reducible rfl
            simp only [Act.put, List.setIfInBounds_toArray, List.set_cons_zero, List.set_cons_succ]
            refine wpAnyH_take (i := 5) (v := ?_) rfl (by kernel_rfl) (by kernel_rfl) (by kernel_rfl) (fun _ _ _ h => h) (Or.inl ⟨by rfl, ?_⟩) (by assumption) ?_
            rotate_left
            · intro w' hSw
              (try dsimp only at hSw)
              go_simp
              try with_reducible rfl
            simp only [Act.put, List.setIfInBounds_toArray, List.set_cons_zero, List.set_cons_succ]
            refine wpAnyH_take (i := 6) (v := ?_) rfl (by kernel_rfl) (by kernel_rfl) (by kernel_rfl) (fun _ _ _ h => h) (Or.inl ⟨by rfl, ?_⟩) (by assumption) ?_
            rotate_left
            · intro w' hSw
              (try dsimp only at hSw)
              go_simp
              try with_reducible rfl
            simp only [Act.put, List.setIfInBounds_toArray, List.set_cons_zero, List.set_cons_succ]
            refine wpAnyH_take (i := 7) (v := ?_) rfl (by kernel_rfl) (by kernel_rfl) (by kernel_rfl) (fun _ _ _ h => h) (Or.inl ⟨by rfl, ?_⟩) (by assumption) ?_
            rotate_left
            · intro w' hSw
              (try dsimp only at hSw)
              go_simp
              try with_reducible rfl
            simp only [Act.put, List.setIfInBounds_toArray, List.set_cons_zero, List.set_cons_succ]
            refine wpAnyH_take (i := 8) (v := ?_) rfl (by kernel_rfl) (by kernel_rfl) (by kernel_rfl) (fun _ _ _ h => h) (Or.inl ⟨by rfl, ?_⟩) (by assumption) ?_
            rotate_left
            · intro w' hSw
              (try dsimp only at hSw)
              go_simp
              try with_reducible rfl
            simp only [Act.put, List.setIfInBounds_toArray, List.set_cons_zero, List.set_cons_succ]
            refine wpAnyH_take (i := 9) (v := ?_) rfl (by kernel_rfl) (by kernel_rfl) (by kernel_rfl) (fun _ _ _ h => h) (Or.inl ⟨by rfl, ?_⟩) (by assumption) ?_
            rotate_left
            · intro w' hSw
              (try dsimp only at hSw)
              go_simp
              try with_reducible rfl
            simp only [Act.put, List.setIfInBounds_toArray, List.set_cons_zero, List.set_cons_succ]
            refine wpAnyH_take (i := 10) (v := ?_) rfl (by kernel_rfl) (by kernel_rfl) (by kernel_rfl) (fun _ _ _ h => h) (Or.inl ⟨by rfl, ?_⟩) (by assumption) ?_
            rotate_left
            · intro w' hSw
              (try dsimp only at hSw)
              go_simp
              try with_reducible rfl
            simp only [Act.put, List.setIfInBounds_toArray, List.set_cons_zero, List.set_cons_succ]
            refine wpAnyH_take (i := 11) (v := ?_) rfl (by kernel_rfl) (by kernel_rfl) (by kernel_rfl) (fun _ _ _ h => h) (Or.inl ⟨by rfl, ?_⟩) (by assumption) ?_
            rotate_left
            · intro w' hSw
              (try dsimp only at hSw)
              go_simp
              try with_reducible rfl
            simp only [Act.put, List.setIfInBounds_toArray, List.set_cons_zero, List.set_cons_succ]
            refine wpAnyH_take (i := 12) (v := ?_) rfl (by kernel_rfl) (by kernel_rfl) (by kernel_rfl) (fun _ _ _ h => h) (Or.inl ⟨by rfl, ?_⟩) (by assumption) ?_
            rotate_left
            · intro w' hSw
              (try dsimp only at hSw)
              go_simp
              try with_reducible rfl
            simp only [Act.put, List.setIfInBounds_toArray, List.set_cons_zero, List.set_cons_succ]
            refine wpAnyH_take (i := 13) (v := ?_) rfl (by kernel_rfl) (by kernel_rfl) (by kernel_rfl) (fun _ _ _ h => h) (Or.inl ⟨by rfl, ?_⟩) (by assumption) ?_
            rotate_left
            · intro w' hSw
              (try dsimp only at hSw)
              go_simp
              try with_reducible rfl
            simp only [Act.put, List.setIfInBounds_toArray, List.set_cons_zero, List.set_cons_succ]
            refine wpAnyH_take (i := 14) (v := ?_) rfl (by kernel_rfl) (by kernel_rfl) (by kernel_rfl) (fun _ _ _ h => h) (Or.inl ⟨by rfl, ?_⟩) (by assumption) ?_
            rotate_left
            · intro w' hSw
              (try dsimp only at hSw)
              go_simp
              try with_reducible rfl
            simp only [Act.put, List.setIfInBounds_toArray, List.set_cons_zero, List.set_cons_succ]
            refine wpAnyH_take (i := 15) (v := ?_) rfl (by kernel_rfl) (by kernel_rfl) (by kernel_rfl) (fun _ _ _ h => h) (Or.inl ⟨by rfl, ?_⟩) (by assumption) ?_
            rotate_left
            · intro w' hSw
              (try dsimp only at hSw)
              go_simp
              try with_reducible rfl
            simp only [Act.put, List.setIfInBounds_toArray, List.set_cons_zero, List.set_cons_succ]
            refine wpAnyH_ready (rs := [1, 16]) (by kernel_rfl) (by simp) ?_
            refine AllReadyH.cons rfl (fun K hK => ?_) (AllReadyH.cons rfl (fun K hK => ?_) AllReadyH.nil)
            · go_simp
              refine hK.out _ _ ?_ (fun hHeld => ?_)
              · (try dsimp only)
                (simp [go_sem, *])
              clear hK K
              try simp only [Act.put, List.setIfInBounds_toArray, List.set_cons_zero, List.set_cons_succ]
              refine wpAnyH_ready (rs := [16]) (by kernel_rfl) (by simp) ?_
              refine AllReadyH.cons rfl (fun K hK => ?_) AllReadyH.nil
              go_simp
              refine hK.out _ _ ?_ (fun hHeld => ?_)
              · (try dsimp only)
                (simp [go_sem, *])
              clear hK K
              try simp only [Act.put, List.setIfInBounds_toArray, List.set_cons_zero, List.set_cons_succ]
              refine wpAnyH_ready (rs := [17]) (by kernel_rfl) (by simp) ?_
              refine AllReadyH.cons rfl (fun K hK => ?_) AllReadyH.nil
              refine step_append_own rfl (.tmp 58) (.tmp 73) 27 rfl (w1.heap.size + 1) 41 i0 _ 3 40 Try.underlying27 hi hz0 hz1 hz2 rfl (by decide) v k (cellsF (cl xs ks k)) (by simp [Act.eval, Act.put]) HO.out ⟨wr.heap.size + 1, 0, none⟩ 1 1 [.string nm, .string (dt.extract 0 (sy + N).toNat), .int .i64 (sy + N)] (by simp [Act.eval, Act.put]) rfl HN.out (fun x hx => by simp at hx; rcases hx with rfl | rfl | rfl <;> rfl) (by unfold maxLen; omega) (by omega) (by simp; omega) ?_
              intro v' w4 hown4 hgrow4 hnil4
              obtain ⟨g', cap', rfl⟩ := owns_succ hown4
              have bo : w4.heap[w1.heap.size]? = wr.heap[w1.heap.size]? := (hgrow4.block w1.heap.size (by simp; omega) (fun e => by have := (HB.out _ e.symm).1; omega)).trans ((Below.heap_alloc _ _ _ (by simp; omega)).trans (Below.heap_alloc _ _ _ hws))
              have bf : w4.heap[wr.heap.size]? = (wr.alloc (.cells #[.string nm, .string dt, .int .i64 sy] 41)).heap[wr.heap.size]? := (hgrow4.block wr.heap.size (by simp; omega) (fun e => by have := (HB.out _ e.symm).2; omega)).trans (Below.heap_alloc _ _ _ (by simp))
              have k0 := (World.cell?_of_block (a := ⟨wr.heap.size, 0, none⟩) bf).trans f0
              have k1 := (World.cell?_of_block (a := ⟨wr.heap.size, 1, none⟩) bf).trans f1
              have k2 := (World.cell?_of_block (a := ⟨wr.heap.size, 2, none⟩) bf).trans f2
              have y0 := (World.cell?_of_block (a := ⟨w1.heap.size, 0, none⟩) bo).trans o0
              have y1 := (World.frozen?_of_block (a := ⟨w1.heap.size, 0, none⟩) bo).trans z0
              have HW4 : Hid (w4.ownsRow (w1.heap.size + 1) 41 3 (.slice (some ⟨g', 0, none⟩) (k + 1) cap') (k + 1) (cellsF (cl xs ks k) ++ [Value.string nm, .string (dt.extract 0 (sy + N).toNat), .int .i64 (sy + N)])) := hown4
              have HB4 : Hid (Below w1.heap.size w1 w4) := ((hb.alloc hbs _).alloc (by simp; omega) _).drew.grown hgrow4 (by simp; omega) (fun g hg => by have := (HB.out g hg).1; omega)
              have HBX : Hid (w4.heap[w1.heap.size]? = some (.cells #[v, .int .i64 q, .int .i64 (-1)] 29 (0, 0))) := bo.trans hbox
              clear bo bf hown4 hgrow4 hnil4
              refine hK.out _ _ ?_ (fun hHeld => ?_)
              · (try dsimp only)
                (simp [go_sem, *])
              clear hK K
              try simp only [Act.put, List.setIfInBounds_toArray, List.set_cons_zero, List.set_cons_succ]
              refine wpAnyH_take (i := 18) (v := ?_) rfl (by kernel_rfl) (by kernel_rfl) (by kernel_rfl) (fun _ _ _ h => h) (Or.inl ⟨by rfl, ?_⟩) (by assumption) ?_
              rotate_left
              · intro w' hSw
                (try dsimp only at hSw)
                go_simp
                try with_reducible rfl
              simp only [Act.put, List.setIfInBounds_toArray, List.set_cons_zero, List.set_cons_succ]
              refine wpAnyH_ready (rs := [19]) (by kernel_rfl) (by simp) ?_
              refine AllReadyH.cons rfl (fun K hK => ?_) AllReadyH.nil
              go_simp
              refine hK.out _ _ ?_ (fun hHeld => ?_)
              · (try dsimp only)
                (simp [go_sem, *])
              clear hK K
              try simp only [Act.put, List.setIfInBounds_toArray, List.set_cons_zero, List.set_cons_succ]
              refine wpAnyH_done (by kernel_rfl) ?_ _
              refine NoPanic.normal ?_
              go_wp2_with fail
              refine ⟨⟨k + 1, .slice (some ⟨g', 0, none⟩) (k + 1) cap', by go_num, by omega, ?_, ?_, HB4.out.setCell (Nat.le_refl _) _⟩, by simp [intOf]; omega⟩
              · rw [heap_setCell_same _ _ _ _ _ _ HBX.out]; simp
              · rw [HC.out, HF.out, cellsF_snoc]
                exact owns_other HW4.out (by omega) 0
            · go_simp
              refine hK.out _ _ ?_ (fun hHeld => ?_)
              · (try dsimp only)
                (simp [go_sem, *])
              clear hK K
              try simp only [Act.put, List.setIfInBounds_toArray, List.set_cons_zero, List.set_cons_succ]
              refine wpAnyH_ready (rs := [1]) (by kernel_rfl) (by simp) ?_
              refine AllReadyH.cons rfl (fun K hK => ?_) AllReadyH.nil
              go_simp
              refine hK.out _ _ ?_ (fun hHeld => ?_)
              · (try dsimp only)
                (simp [go_sem, *])
              clear hK K
              try simp only [Act.put, List.setIfInBounds_toArray, List.set_cons_zero, List.set_cons_succ]
              refine wpAnyH_ready (rs := [17]) (by kernel_rfl) (by simp) ?_
              refine AllReadyH.cons rfl (fun K hK => ?_) AllReadyH.nil
              refine step_append_own rfl (.tmp 58) (.tmp 73) 27 rfl (w1.heap.size + 1) 41 i0 _ 3 40 Try.underlying27 hi hz0 hz1 hz2 rfl (by decide) v k (cellsF (cl xs ks k)) (by simp [Act.eval, Act.put]) HO.out ⟨wr.heap.size + 1, 0, none⟩ 1 1 [.string nm, .string (dt.extract 0 (sy + N).toNat), .int .i64 (sy + N)] (by simp [Act.eval, Act.put]) rfl HN.out (fun x hx => by simp at hx; rcases hx with rfl | rfl | rfl <;> rfl) (by unfold maxLen; omega) (by omega) (by simp; omega) ?_
              intro v' w4 hown4 hgrow4 hnil4
              obtain ⟨g', cap', rfl⟩ := owns_succ hown4
              have bo : w4.heap[w1.heap.size]? = wr.heap[w1.heap.size]? := (hgrow4.block w1.heap.size (by simp; omega) (fun e => by have := (HB.out _ e.symm).1; omega)).trans ((Below.heap_alloc _ _ _ (by simp; omega)).trans (Below.heap_alloc _ _ _ hws))
              have bf : w4.heap[wr.heap.size]? = (wr.alloc (.cells #[.string nm, .string dt, .int .i64 sy] 41)).heap[wr.heap.size]? := (hgrow4.block wr.heap.size (by simp; omega) (fun e => by have := (HB.out _ e.symm).2; omega)).trans (Below.heap_alloc _ _ _ (by simp))
              have k0 := (World.cell?_of_block (a := ⟨wr.heap.size, 0, none⟩) bf).trans f0
              have k1 := (World.cell?_of_block (a := ⟨wr.heap.size, 1, none⟩) bf).trans f1
              have k2 := (World.cell?_of_block (a := ⟨wr.heap.size, 2, none⟩) bf).trans f2
              have y0 := (World.cell?_of_block (a := ⟨w1.heap.size, 0, none⟩) bo).trans o0
              have y1 := (World.frozen?_of_block (a := ⟨w1.heap.size, 0, none⟩) bo).trans z0
              have HW4 : Hid (w4.ownsRow (w1.heap.size + 1) 41 3 (.slice (some ⟨g', 0, none⟩) (k + 1) cap') (k + 1) (cellsF (cl xs ks k) ++ [Value.string nm, .string (dt.extract 0 (sy + N).toNat), .int .i64 (sy + N)])) := hown4
              have HB4 : Hid (Below w1.heap.size w1 w4) := ((hb.alloc hbs _).alloc (by simp; omega) _).drew.grown hgrow4 (by simp; omega) (fun g hg => by have := (HB.out g hg).1; omega)
              have HBX : Hid (w4.heap[w1.heap.size]? = some (.cells #[v, .int .i64 q, .int .i64 (-1)] 29 (0, 0))) := bo.trans hbox
              clear bo bf hown4 hgrow4 hnil4
              refine hK.out _ _ ?_ (fun hHeld => ?_)
              · (try dsimp only)
                (simp [go_sem, *])
              clear hK K
              try simp only [Act.put, List.setIfInBounds_toArray, List.set_cons_zero, List.set_cons_succ]
              refine wpAnyH_take (i := 18) (v := ?_) rfl (by kernel_rfl) (by kernel_rfl) (by kernel_rfl) (fun _ _ _ h => h) (Or.inl ⟨by rfl, ?_⟩) (by assumption) ?_
              rotate_left
              · intro w' hSw
                (try dsimp only at hSw)
                go_simp
                try with_reducible rfl
              simp only [Act.put, List.setIfInBounds_toArray, List.set_cons_zero, List.set_cons_succ]
              refine wpAnyH_ready (rs := [19]) (by kernel_rfl) (by simp) ?_
              refine AllReadyH.cons rfl (fun K hK => ?_) AllReadyH.nil
              go_simp
              refine hK.out _ _ ?_ (fun hHeld => ?_)
              · (try dsimp only)
                (simp [go_sem, *])
              clear hK K
              try simp only [Act.put, List.setIfInBounds_toArray, List.set_cons_zero, List.set_cons_succ]
              refine wpAnyH_done (by kernel_rfl) ?_ _
              refine NoPanic.normal ?_
              go_wp2_with fail
              refine ⟨⟨k + 1, .slice (some ⟨g', 0, none⟩) (k + 1) cap', by go_num, by omega, ?_, ?_, HB4.out.setCell (Nat.le_refl _) _⟩, by simp [intOf]; omega⟩
              · rw [heap_setCell_same _ _ _ _ _ _ HBX.out]; simp
              · rw [HC.out, HF.out, cellsF_snoc]
                exact owns_other HW4.out (by omega) 0
          · have HF : Hid (crFl ks k ⟨nm, dt, sy⟩ = ⟨nm, dt.extract 0 (sy + kk).toNat, sy + kk⟩) := by
              show _ = _
              have e : kb ks k ((dt.size : Int) - sy) = kk := by rw [HK.out]; omega
              simp only [crFl, crN, e]
            have hle : ¬ (dt.size : Int) - sy < kk := by omega
            go_wp2_with fail
            have f0 : (wr.alloc (.cells #[.string nm, .string dt, .int .i64 sy] 41)).cell? ⟨wr.heap.size, 0, none⟩ = some (.string nm) := by simp
            have f1 : (wr.alloc (.cells #[.string nm, .string dt, .int .i64 sy] 41)).cell? ⟨wr.heap.size, 1, none⟩ = some (.string dt) := by simp
            have f2 : (wr.alloc (.cells #[.string nm, .string dt, .int .i64 sy] 41)).cell? ⟨wr.heap.size, 2, none⟩ = some (.int .i64 sy) := by simp
            have HO : Hid (((wr.alloc (.cells #[.string nm, .string dt, .int .i64 sy] 41)).alloc (.cells #[.string nm, .string (dt.extract 0 (sy + kk).toNat), .int .i64 (sy + kk)] 41)).drew.ownsRow (w1.heap.size + 1) 41 3 v k (cellsF (cl xs ks k))) := (hown.alloc _).alloc _
            have HN : Hid (∀ j u, [Value.string nm, .string (dt.extract 0 (sy + kk).toNat), .int .i64 (sy + kk)][j]? = some u → ((wr.alloc (.cells #[.string nm, .string dt, .int .i64 sy] 41)).alloc (.cells #[.string nm, .string (dt.extract 0 (sy + kk).toNat), .int .i64 (sy + kk)] 41)).drew.cell? ((⟨wr.heap.size + 1, 0, none⟩ : Addr).add j) = some u) := cell_second3 _ _ _ _ _ _
            have hwr : IntKind.i64.wrap (sy + kk) = sy + kk := by rw [IntKind.wrap_i64]; omega
            have hr1 : 0 ≤ sy + kk := by omega
            have hr2 : sy + kk ≤ (dt.size : Int) := by omega
            have HB : Hid (∀ g, v.ownBlock = some g → w1.heap.size + 1 ≤ g ∧ g < wr.heap.size) := fun g hg => ⟨owns_base hown g hg, owns_lt hown g hg⟩
            refine wp_region_noPanic ?_
            refine wp_region_held_drew (S := (fun w' => w'.cell? ⟨wr.heap.size, 0, none⟩ = some (.string nm) ∧ w'.cell? ⟨wr.heap.size, 1, none⟩ = some (.string dt) ∧ w'.cell? ⟨wr.heap.size, 2, none⟩ = some (.int .i64 sy))) (by kernel_rfl) ?_ (fun hHeld => ?_)
            · (try dsimp only)
              (simp [go_sem, *])
            refine wpAnyH_take (i := 0) (v := ?_) rfl (by kernel_rfl) (by kernel_rfl) (by kernel_rfl) (fun _ _ _ h => h) (Or.inl ⟨by rfl, ?_⟩) (by assumption) ?_
            rotate_left
            · intro w' hSw
              (try dsimp only at hSw)
              go_simp
              try with_reducible rfl
            simp only [Act.put, List.setIfInBounds_toArray, List.set_cons_zero, List.set_cons_succ]
            refine wpAnyH_take (i := 2) (v := ?_) rfl (by kernel_rfl) (by kernel_rfl) (by kernel_rfl) (fun _ _ _ h => h) (Or.inl ⟨by rfl, ?_⟩) (by assumption) ?_
            rotate_left
            · intro w' hSw
              (try dsimp only at hSw)
              go_simp
              try with_reducible rfl
            simp only [Act.put, List.setIfInBounds_toArray, List.set_cons_zero, List.set_cons_succ]
            refine wpAnyH_take (i := 3) (v := ?_) rfl (by kernel_rfl) (by kernel_rfl) (by kernel_rfl) (fun _ _ _ h => h) (Or.inl ⟨by rfl, ?_⟩) (by assumption) ?_
            rotate_left
            · intro w' hSw
              (try dsimp only at hSw)
              go_simp
              try with_reducible rfl
            simp only [Act.put, List.setIfInBounds_toArray, List.set_cons_zero, List.set_cons_succ]
            refine wpAnyH_take (i := 4) (v := ?_) rfl (by kernel_rfl) (by kernel_rfl) (by kernel_rfl) (fun _ _ _ h => h) (Or.inl ⟨by rfl, ?_⟩) (by assumption) ?_
            rotate_left
            · intro w' hSw
              (try dsimp only at hSw)
              go_simp
              try with_reducible rfl
            simp only [Act.put, List.setIfInBounds_toArray, List.set_cons_zero, List.set_cons_succ]
            refine wpAnyH_take (i := 5) (v := ?_) rfl (by kernel_rfl) (by kernel_rfl) (by kernel_rfl) (fun _ _ _ h => h) (Or.inl ⟨by rfl, ?_⟩) (by assumption) ?_
            rotate_left
            · intro w' hSw
              (try dsimp only at hSw)
              go_simp
              try with_reducible rfl
            simp only [Act.put, List.setIfInBounds_toArray, List.set_cons_zero, List.set_cons_succ]
            refine wpAnyH_take (i := 6) (v := ?_) rfl (by kernel_rfl) (by kernel_rfl) (by kernel_rfl) (fun _ _ _ h => h) (Or.inl ⟨by rfl, ?_⟩) (by assumption) ?_
            rotate_left
            · intro w' hSw
              (try dsimp only at hSw)
              go_simp
              try with_reducible rfl
            simp only [Act.put, List.setIfInBounds_toArray, List.set_cons_zero, List.set_cons_succ]
            refine wpAnyH_take (i := 7) (v := ?_) rfl (by kernel_rfl) (by kernel_rfl) (by kernel_rfl) (fun _ _ _ h => h) (Or.inl ⟨by rfl, ?_⟩) (by assumption) ?_
            rotate_left
            · intro w' hSw
              (try dsimp only at hSw)
              go_simp
              try with_reducible rfl
            simp only [Act.put, List.setIfInBounds_toArray, List.set_cons_zero, List.set_cons_succ]
            refine wpAnyH_take (i := 8) (v := ?_) rfl (by kernel_rfl) (by kernel_rfl) (by kernel_rfl) (fun _ _ _ h => h) (Or.inl ⟨by rfl, ?_⟩) (by assumption) ?_
            rotate_left
            · intro w' hSw
              (try dsimp only at hSw)
              go_simp
              try with_reducible rfl
            simp only [Act.put, List.setIfInBounds_toArray, List.set_cons_zero, List.set_cons_succ]
            refine wpAnyH_take (i := 9) (v := ?_) rfl (by kernel_rfl) (by kernel_rfl) (by kernel_rfl) (fun _ _ _ h => h) (Or.inl ⟨by rfl, ?_⟩) (by assumption) ?_
            rotate_left
            · intro w' hSw
              (try dsimp only at hSw)
              go_simp
              try with_reducible rfl
            simp only [Act.put, List.setIfInBounds_toArray, List.set_cons_zero, List.set_cons_succ]
            refine wpAnyH_take (i := 10) (v := ?_) rfl (by kernel_rfl) (by kernel_rfl) (by kernel_rfl) (fun _ _ _ h => h) (Or.inl ⟨by rfl, ?_⟩) (by assumption) ?_
            rotate_left
            · intro w' hSw
              (try dsimp only at hSw)
              go_simp
              try with_reducible rfl
            simp only [Act.put, List.setIfInBounds_toArray, List.set_cons_zero, List.set_cons_succ]
            refine wpAnyH_take (i := 11) (v := ?_) rfl (by kernel_rfl) (by kernel_rfl) (by kernel_rfl) (fun _ _ _ h => h) (Or.inl ⟨by rfl, ?_⟩) (by assumption) ?_
            rotate_left
            · intro w' hSw
              (try dsimp only at hSw)
              go_simp
              try with_reducible rfl
            simp only [Act.put, List.setIfInBounds_toArray, List.set_cons_zero, List.set_cons_succ]
            refine wpAnyH_take (i := 12) (v := ?_) rfl (by kernel_rfl) (by kernel_rfl) (by kernel_rfl) (fun _ _ _ h => h) (Or.inl ⟨by rfl, ?_⟩) (by assumption) ?_
            rotate_left
            · intro w' hSw
              (try dsimp only at hSw)
              go_simp
              try with_reducible rfl
            simp only [Act.put, List.setIfInBounds_toArray, List.set_cons_zero, List.set_cons_succ]
            refine wpAnyH_take (i := 13) (v := ?_) rfl (by kernel_rfl) (by kernel_rfl) (by kernel_rfl) (fun _ _ _ h => h) (Or.inl ⟨by rfl, ?_⟩) (by assumption) ?_
            rotate_left
            · intro w' hSw
              (try dsimp only at hSw)
              go_simp
              try with_reducible rfl
            simp only [Act.put, List.setIfInBounds_toArray, List.set_cons_zero, List.set_cons_succ]
            refine wpAnyH_take (i := 14) (v := ?_) rfl (by kernel_rfl) (by kernel_rfl) (by kernel_rfl) (fun _ _ _ h => h) (Or.inl ⟨by rfl, ?_⟩) (by assumption) ?_
            rotate_left
            · intro w' hSw
              (try dsimp only at hSw)
              go_simp
              try with_reducible rfl
            simp only [Act.put, List.setIfInBounds_toArray, List.set_cons_zero, List.set_cons_succ]
            refine wpAnyH_take (i := 15) (v := ?_) rfl (by kernel_rfl) (by kernel_rfl) (by kernel_rfl) (fun _ _ _ h => h) (Or.inl ⟨by rfl, ?_⟩) (by assumption) ?_
            rotate_left
            · intro w' hSw
              (try dsimp only at hSw)
              go_simp
              try with_reducible rfl
            simp only [Act.put, List.setIfInBounds_toArray, List.set_cons_zero, List.set_cons_succ]
            refine wpAnyH_ready (rs := [1, 16]) (by kernel_rfl) (by simp) ?_
            refine AllReadyH.cons rfl (fun K hK => ?_) (AllReadyH.cons rfl (fun K hK => ?_) AllReadyH.nil)
            · go_simp
              refine hK.out _ _ ?_ (fun hHeld => ?_)
              · (try dsimp only)
                (simp [go_sem, *])
              clear hK K
              try simp only [Act.put, List.setIfInBounds_toArray, List.set_cons_zero, List.set_cons_succ]
              refine wpAnyH_ready (rs := [16]) (by kernel_rfl) (by simp) ?_
              refine AllReadyH.cons rfl (fun K hK => ?_) AllReadyH.nil
              go_simp
              refine hK.out _ _ ?_ (fun hHeld => ?_)
              · (try dsimp only)
                (simp [go_sem, *])
              clear hK K
              try simp only [Act.put, List.setIfInBounds_toArray, List.set_cons_zero, List.set_cons_succ]
              refine wpAnyH_ready (rs := [17]) (by kernel_rfl) (by simp) ?_
              refine AllReadyH.cons rfl (fun K hK => ?_) AllReadyH.nil
              refine step_append_own rfl (.tmp 58) (.tmp 73) 27 rfl (w1.heap.size + 1) 41 i0 _ 3 40 Try.underlying27 hi hz0 hz1 hz2 rfl (by decide) v k (cellsF (cl xs ks k)) (by simp [Act.eval, Act.put]) HO.out ⟨wr.heap.size + 1, 0, none⟩ 1 1 [.string nm, .string (dt.extract 0 (sy + kk).toNat), .int .i64 (sy + kk)] (by simp [Act.eval, Act.put]) rfl HN.out (fun x hx => by simp at hx; rcases hx with rfl | rfl | rfl <;> rfl) (by unfold maxLen; omega) (by omega) (by simp; omega) ?_
              intro v' w4 hown4 hgrow4 hnil4
              obtain ⟨g', cap', rfl⟩ := owns_succ hown4
              have bo : w4.heap[w1.heap.size]? = wr.heap[w1.heap.size]? := (hgrow4.block w1.heap.size (by simp; omega) (fun e => by have := (HB.out _ e.symm).1; omega)).trans ((Below.heap_alloc _ _ _ (by simp; omega)).trans (Below.heap_alloc _ _ _ hws))
              have bf : w4.heap[wr.heap.size]? = (wr.alloc (.cells #[.string nm, .string dt, .int .i64 sy] 41)).heap[wr.heap.size]? := (hgrow4.block wr.heap.size (by simp; omega) (fun e => by have := (HB.out _ e.symm).2; omega)).trans (Below.heap_alloc _ _ _ (by simp))
              have k0 := (World.cell?_of_block (a := ⟨wr.heap.size, 0, none⟩) bf).trans f0
              have k1 := (World.cell?_of_block (a := ⟨wr.heap.size, 1, none⟩) bf).trans f1
              have k2 := (World.cell?_of_block (a := ⟨wr.heap.size, 2, none⟩) bf).trans f2
              have y0 := (World.cell?_of_block (a := ⟨w1.heap.size, 0, none⟩) bo).trans o0
              have y1 := (World.frozen?_of_block (a := ⟨w1.heap.size, 0, none⟩) bo).trans z0
              have HW4 : Hid (w4.ownsRow (w1.heap.size + 1) 41 3 (.slice (some ⟨g', 0, none⟩) (k + 1) cap') (k + 1) (cellsF (cl xs ks k) ++ [Value.string nm, .string (dt.extract 0 (sy + kk).toNat), .int .i64 (sy + kk)])) := hown4
              have HB4 : Hid (Below w1.heap.size w1 w4) := ((hb.alloc hbs _).alloc (by simp; omega) _).drew.grown hgrow4 (by simp; omega) (fun g hg => by have := (HB.out g hg).1; omega)
              have HBX : Hid (w4.heap[w1.heap.size]? = some (.cells #[v, .int .i64 q, .int .i64 (-1)] 29 (0, 0))) := bo.trans hbox
              clear bo bf hown4 hgrow4 hnil4
              refine hK.out _ _ ?_ (fun hHeld => ?_)
              · (try dsimp only)
                (simp [go_sem, *])
              clear hK K
              try simp only [Act.put, List.setIfInBounds_toArray, List.set_cons_zero, List.set_cons_succ]
              refine wpAnyH_take (i := 18) (v := ?_) rfl (by kernel_rfl) (by kernel_rfl) (by kernel_rfl) (fun _ _ _ h => h) (Or.inl ⟨by rfl, ?_⟩) (by assumption) ?_
              rotate_left
              · intro w' hSw
                (try dsimp only at hSw)
                go_simp
                try with_reducible rfl
              simp only [Act.put, List.setIfInBounds_toArray, List.set_cons_zero, List.set_cons_succ]
              refine wpAnyH_ready (rs := [19]) (by kernel_rfl) (by simp) ?_
              refine AllReadyH.cons rfl (fun K hK => ?_) AllReadyH.nil
              go_simp
              refine hK.out _ _ ?_ (fun hHeld => ?_)
              · (try dsimp only)
                (simp [go_sem, *])
              clear hK K
              try simp only [Act.put, List.setIfInBounds_toArray, List.set_cons_zero, List.set_cons_succ]
              refine wpAnyH_done (by kernel_rfl) ?_ _
              refine NoPanic.normal ?_
              go_wp2_with fail
              refine ⟨⟨k + 1, .slice (some ⟨g', 0, none⟩) (k + 1) cap', by go_num, by omega, ?_, ?_, HB4.out.setCell (Nat.le_refl _) _⟩, by simp [intOf]; omega⟩
              · rw [heap_setCell_same _ _ _ _ _ _ HBX.out]; simp
              · rw [HC.out, HF.out, cellsF_snoc]
                exact owns_other HW4.out (by omega) 0
            · go_simp
              refine hK.out _ _ ?_ (fun hHeld => ?_)
              · (try dsimp only)
                (simp [go_sem, *])
              clear hK K
              try simp only [Act.put, List.setIfInBounds_toArray, List.set_cons_zero, List.set_cons_succ]
              refine wpAnyH_ready (rs := [1]) (by kernel_rfl) (by simp) ?_
              refine AllReadyH.cons rfl (fun K hK => ?_) AllReadyH.nil
              go_simp
              refine hK.out _ _ ?_ (fun hHeld => ?_)
              · (try dsimp only)
                (simp [go_sem, *])
              clear hK K
              try simp only [Act.put, List.setIfInBounds_toArray, List.set_cons_zero, List.set_cons_succ]
              refine wpAnyH_ready (rs := [17]) (by kernel_rfl) (by simp) ?_
              refine AllReadyH.cons rfl (fun K hK => ?_) AllReadyH.nil
              refine step_append_own rfl (.tmp 58) (.tmp 73) 27 rfl (w1.heap.size + 1) 41 i0 _ 3 40 Try.underlying27 hi hz0 hz1 hz2 rfl (by decide) v k (cellsF (cl xs ks k)) (by simp [Act.eval, Act.put]) HO.out ⟨wr.heap.size + 1, 0, none⟩ 1 1 [.string nm, .string (dt.extract 0 (sy + kk).toNat), .int .i64 (sy + kk)] (by simp [Act.eval, Act.put]) rfl HN.out (fun x hx => by simp at hx; rcases hx with rfl | rfl | rfl <;> rfl) (by unfold maxLen; omega) (by omega) (by simp; omega) ?_
              intro v' w4 hown4 hgrow4 hnil4
              obtain ⟨g', cap', rfl⟩ := owns_succ hown4
              have bo : w4.heap[w1.heap.size]? = wr.heap[w1.heap.size]? := (hgrow4.block w1.heap.size (by simp; omega) (fun e => by have := (HB.out _ e.symm).1; omega)).trans ((Below.heap_alloc _ _ _ (by simp; omega)).trans (Below.heap_alloc _ _ _ hws))
              have bf : w4.heap[wr.heap.size]? = (wr.alloc (.cells #[.string nm, .string dt, .int .i64 sy] 41)).heap[wr.heap.size]? := (hgrow4.block wr.heap.size (by simp; omega) (fun e => by have := (HB.out _ e.symm).2; omega)).trans (Below.heap_alloc _ _ _ (by simp))
              have k0 := (World.cell?_of_block (a := ⟨wr.heap.size, 0, none⟩) bf).trans f0
              have k1 := (World.cell?_of_block (a := ⟨wr.heap.size, 1, none⟩) bf).trans f1
              have k2 := (World.cell?_of_block (a := ⟨wr.heap.size, 2, none⟩) bf).trans f2
              have y0 := (World.cell?_of_block (a := ⟨w1.heap.size, 0, none⟩) bo).trans o0
              have y1 := (World.frozen?_of_block (a := ⟨w1.heap.size, 0, none⟩) bo).trans z0
              have HW4 : Hid (w4.ownsRow (w1.heap.size + 1) 41 3 (.slice (some ⟨g', 0, none⟩) (k + 1) cap') (k + 1) (cellsF (cl xs ks k) ++ [Value.string nm, .string (dt.extract 0 (sy + kk).toNat), .int .i64 (sy + kk)])) := hown4
              have HB4 : Hid (Below w1.heap.size w1 w4) := ((hb.alloc hbs _).alloc (by simp; omega) _).drew.grown hgrow4 (by simp; omega) (fun g hg => by have := (HB.out g hg).1; omega)
              have HBX : Hid (w4.heap[w1.heap.size]? = some (.cells #[v, .int .i64 q, .int .i64 (-1)] 29 (0, 0))) := bo.trans hbox
              clear bo bf hown4 hgrow4 hnil4
              refine hK.out _ _ ?_ (fun hHeld => ?_)
              · (try dsimp only)
                (simp [go_sem, *])
              clear hK K
              try simp only [Act.put, List.setIfInBounds_toArray, List.set_cons_zero, List.set_cons_succ]
              refine wpAnyH_take (i := 18) (v := ?_) rfl (by kernel_rfl) (by kernel_rfl) (by kernel_rfl) (fun _ _ _ h => h) (Or.inl ⟨by rfl, ?_⟩) (by assumption) ?_
              rotate_left
              · intro w' hSw
                (try dsimp only at hSw)
                go_simp
                try with_reducible rfl
              simp only [Act.put, List.setIfInBounds_toArray, List.set_cons_zero, List.set_cons_succ]
              refine wpAnyH_ready (rs := [19]) (by kernel_rfl) (by simp) ?_
              refine AllReadyH.cons rfl (fun K hK => ?_) AllReadyH.nil
              go_simp
              refine hK.out _ _ ?_ (fun hHeld => ?_)
              · (try dsimp only)
                (simp [go_sem, *])
              clear hK K
              try simp only [Act.put, List.setIfInBounds_toArray, List.set_cons_zero, List.set_cons_succ]
              refine wpAnyH_done (by kernel_rfl) ?_ _
              refine NoPanic.normal ?_
              go_wp2_with fail
              refine ⟨⟨k + 1, .slice (some ⟨g', 0, none⟩) (k + 1) cap', by go_num, by omega, ?_, ?_, HB4.out.setCell (Nat.le_refl _) _⟩, by simp [intOf]; omega⟩
              · rw [heap_setCell_same _ _ _ _ _ _ HBX.out]; simp
              · rw [HC.out, HF.out, cellsF_snoc]
                exact owns_other HW4.out (by omega) 0
        · have HF : Hid (crFl ks k ⟨nm, dt, sy⟩ = ⟨nm, dt.extract 0 (sy).toNat, sy⟩) := by
            show _ = _
            have e : kb ks k ((dt.size : Int) - sy) = 0 := by rw [HK.out]; omega
            simp only [crFl, crN, e, Int.add_zero]
          go_wp2_with fail
          have f0 : (wr.alloc (.cells #[.string nm, .string dt, .int .i64 sy] 41)).cell? ⟨wr.heap.size, 0, none⟩ = some (.string nm) := by simp
          have f1 : (wr.alloc (.cells #[.string nm, .string dt, .int .i64 sy] 41)).cell? ⟨wr.heap.size, 1, none⟩ = some (.string dt) := by simp
          have f2 : (wr.alloc (.cells #[.string nm, .string dt, .int .i64 sy] 41)).cell? ⟨wr.heap.size, 2, none⟩ = some (.int .i64 sy) := by simp
          have HO : Hid (((wr.alloc (.cells #[.string nm, .string dt, .int .i64 sy] 41)).alloc (.cells #[.string nm, .string (dt.extract 0 (sy).toNat), .int .i64 (sy)] 41)).drew.ownsRow (w1.heap.size + 1) 41 3 v k (cellsF (cl xs ks k))) := (hown.alloc _).alloc _
          have HN : Hid (∀ j u, [Value.string nm, .string (dt.extract 0 (sy).toNat), .int .i64 (sy)][j]? = some u → ((wr.alloc (.cells #[.string nm, .string dt, .int .i64 sy] 41)).alloc (.cells #[.string nm, .string (dt.extract 0 (sy).toNat), .int .i64 (sy)] 41)).drew.cell? ((⟨wr.heap.size + 1, 0, none⟩ : Addr).add j) = some u) := cell_second3 _ _ _ _ _ _
          have hwr : IntKind.i64.wrap (sy) = sy := by rw [IntKind.wrap_i64]; omega
          have hr1 : 0 ≤ sy := by omega
          have hr2 : sy ≤ (dt.size : Int) := by omega
          have HB : Hid (∀ g, v.ownBlock = some g → w1.heap.size + 1 ≤ g ∧ g < wr.heap.size) := fun g hg => ⟨owns_base hown g hg, owns_lt hown g hg⟩
          refine wp_region_noPanic ?_
          refine wp_region_held_drew (S := (fun w' => w'.cell? ⟨wr.heap.size, 0, none⟩ = some (.string nm) ∧ w'.cell? ⟨wr.heap.size, 1, none⟩ = some (.string dt) ∧ w'.cell? ⟨wr.heap.size, 2, none⟩ = some (.int .i64 sy))) (by kernel_rfl) ?_ (fun hHeld => ?_)
          · (try dsimp only)
            (simp [go_sem, *])
          refine wpAnyH_take (i := 0) (v := ?_) rfl (by kernel_rfl) (by kernel_rfl) (by kernel_rfl) (fun _ _ _ h => h) (Or.inl ⟨by rfl, ?_⟩) (by assumption) ?_
          rotate_left
          · intro w' hSw
            (try dsimp only at hSw)
            go_simp
            try with_reducible rfl
          simp only [Act.put, List.setIfInBounds_toArray, List.set_cons_zero, List.set_cons_succ]
          refine wpAnyH_take (i := 2) (v := ?_) rfl (by kernel_rfl) (by kernel_rfl) (by kernel_rfl) (fun _ _ _ h => h) (Or.inl ⟨by rfl, ?_⟩) (by assumption) ?_
          rotate_left
          · intro w' hSw
            (try dsimp only at hSw)
            go_simp
            try with_reducible rfl
          simp only [Act.put, List.setIfInBounds_toArray, List.set_cons_zero, List.set_cons_succ]
          refine wpAnyH_take (i := 3) (v := ?_) rfl (by kernel_rfl) (by kernel_rfl) (by kernel_rfl) (fun _ _ _ h => h) (Or.inl ⟨by rfl, ?_⟩) (by assumption) ?_
          rotate_left
          · intro w' hSw
            (try dsimp only at hSw)
            go_simp
            try with_reducible rfl
          simp only [Act.put, List.setIfInBounds_toArray, List.set_cons_zero, List.set_cons_succ]
          refine wpAnyH_take (i := 4) (v := ?_) rfl (by kernel_rfl) (by kernel_rfl) (by kernel_rfl) (fun _ _ _ h => h) (Or.inl ⟨by rfl, ?_⟩) (by assumption) ?_
          rotate_left
          · intro w' hSw
            (try dsimp only at hSw)
            go_simp
            try with_reducible rfl
          simp only [Act.put, List.setIfInBounds_toArray, List.set_cons_zero, List.set_cons_succ]
          refine wpAnyH_take (i := 5) (v := ?_) rfl (by kernel_rfl) (by kernel_rfl) (by kernel_rfl) (fun _ _ _ h => h) (Or.inl ⟨by rfl, ?_⟩) (by assumption) ?_
          rotate_left
          · intro w' hSw
            (try dsimp only at hSw)
            go_simp
            try with_reducible rfl
          simp only [Act.put, List.setIfInBounds_toArray, List.set_cons_zero, List.set_cons_succ]
          refine wpAnyH_take (i := 6) (v := ?_) rfl (by kernel_rfl) (by kernel_rfl) (by kernel_rfl) (fun _ _ _ h => h) (Or.inl ⟨by rfl, ?_⟩) (by assumption) ?_
          rotate_left
          · intro w' hSw
            (try dsimp only at hSw)
            go_simp
            try with_reducible rfl
          simp only [Act.put, List.setIfInBounds_toArray, List.set_cons_zero, List.set_cons_succ]
          refine wpAnyH_take (i := 7) (v := ?_) rfl (by kernel_rfl) (by kernel_rfl) (by kernel_rfl) (fun _ _ _ h => h) (Or.inl ⟨by rfl, ?_⟩) (by assumption) ?_
          rotate_left
          · intro w' hSw
            (try dsimp only at hSw)
            go_simp
            try with_reducible rfl
          simp only [Act.put, List.setIfInBounds_toArray, List.set_cons_zero, List.set_cons_succ]
          refine wpAnyH_take (i := 8) (v := ?_) rfl (by kernel_rfl) (by kernel_rfl) (by kernel_rfl) (fun _ _ _ h => h) (Or.inl ⟨by rfl, ?_⟩) (by assumption) ?_
          rotate_left
          · intro w' hSw
            (try dsimp only at hSw)
            go_simp
            try with_reducible rfl
          simp only [Act.put, List.setIfInBounds_toArray, List.set_cons_zero, List.set_cons_succ]
          refine wpAnyH_take (i := 9) (v := ?_) rfl (by kernel_rfl) (by kernel_rfl) (by kernel_rfl) (fun _ _ _ h => h) (Or.inl ⟨by rfl, ?_⟩) (by assumption) ?_
          rotate_left
          · intro w' hSw
            (try dsimp only at hSw)
            go_simp
            try with_reducible rfl
          simp only [Act.put, List.setIfInBounds_toArray, List.set_cons_zero, List.set_cons_succ]
          refine wpAnyH_take (i := 10) (v := ?_) rfl (by kernel_rfl) (by kernel_rfl) (by kernel_rfl) (fun _ _ _ h => h) (Or.inl ⟨by rfl, ?_⟩) (by assumption) ?_
          rotate_left
          · intro w' hSw
            (try dsimp only at hSw)
            go_simp
            try with_reducible rfl
          simp only [Act.put, List.setIfInBounds_toArray, List.set_cons_zero, List.set_cons_succ]
          refine wpAnyH_take (i := 11) (v := ?_) rfl (by kernel_rfl) (by kernel_rfl) (by kernel_rfl) (fun _ _ _ h => h) (Or.inl ⟨by rfl, ?_⟩) (by assumption) ?_
          rotate_left
          · intro w' hSw
            (try dsimp only at hSw)
            go_simp
            try with_reducible rfl
          simp only [Act.put, List.setIfInBounds_toArray, List.set_cons_zero, List.set_cons_succ]
          refine wpAnyH_take (i := 12) (v := ?_) rfl (by kernel_rfl) (by kernel_rfl) (by kernel_rfl) (fun _ _ _ h => h) (Or.inl ⟨by rfl, ?_⟩) (by assumption) ?_
          rotate_left
          · intro w' hSw
            (try dsimp only at hSw)
            go_simp
            try with_reducible rfl
          simp only [Act.put, List.setIfInBounds_toArray, List.set_cons_zero, List.set_cons_succ]
          refine wpAnyH_take (i := 13) (v := ?_) rfl (by kernel_rfl) (by kernel_rfl) (by kernel_rfl) (fun _ _ _ h => h) (Or.inl ⟨by rfl, ?_⟩) (by assumption) ?_
          rotate_left
          · intro w' hSw
            (try dsimp only at hSw)
            go_simp
            try with_reducible rfl
          simp only [Act.put, List.setIfInBounds_toArray, List.set_cons_zero, List.set_cons_succ]
          refine wpAnyH_take (i := 14) (v := ?_) rfl (by kernel_rfl) (by kernel_rfl) (by kernel_rfl) (fun _ _ _ h => h) (Or.inl ⟨by rfl, ?_⟩) (by assumption) ?_
          rotate_left
          · intro w' hSw
            (try dsimp only at hSw)
            go_simp
            try with_reducible rfl
          simp only [Act.put, List.setIfInBounds_toArray, List.set_cons_zero, List.set_cons_succ]
          refine wpAnyH_take (i := 15) (v := ?_) rfl (by kernel_rfl) (by kernel_rfl) (by kernel_rfl) (fun _ _ _ h => h) (Or.inl ⟨by rfl, ?_⟩) (by assumption) ?_
          rotate_left
          · intro w' hSw
            (try dsimp only at hSw)
            go_simp
            try with_reducible rfl
          simp only [Act.put, List.setIfInBounds_toArray, List.set_cons_zero, List.set_cons_succ]
          refine wpAnyH_ready (rs := [1, 16]) (by kernel_rfl) (by simp) ?_
          refine AllReadyH.cons rfl (fun K hK => ?_) (AllReadyH.cons rfl (fun K hK => ?_) AllReadyH.nil)
          · go_simp
            refine hK.out _ _ ?_ (fun hHeld => ?_)
            · (try dsimp only)
              (simp [go_sem, *])
            clear hK K
            try simp only [Act.put, List.setIfInBounds_toArray, List.set_cons_zero, List.set_cons_succ]
            refine wpAnyH_ready (rs := [16]) (by kernel_rfl) (by simp) ?_
            refine AllReadyH.cons rfl (fun K hK => ?_) AllReadyH.nil
            go_simp
            refine hK.out _ _ ?_ (fun hHeld => ?_)
            · (try dsimp only)
              (simp [go_sem, *])
            clear hK K
            try simp only [Act.put, List.setIfInBounds_toArray, List.set_cons_zero, List.set_cons_succ]
            refine wpAnyH_ready (rs := [17]) (by kernel_rfl) (by simp) ?_
            refine AllReadyH.cons rfl (fun K hK => ?_) AllReadyH.nil
            refine step_append_own rfl (.tmp 58) (.tmp 73) 27 rfl (w1.heap.size + 1) 41 i0 _ 3 40 Try.underlying27 hi hz0 hz1 hz2 rfl (by decide) v k (cellsF (cl xs ks k)) (by simp [Act.eval, Act.put]) HO.out ⟨wr.heap.size + 1, 0, none⟩ 1 1 [.string nm, .string (dt.extract 0 (sy).toNat), .int .i64 (sy)] (by simp [Act.eval, Act.put]) rfl HN.out (fun x hx => by simp at hx; rcases hx with rfl | rfl | rfl <;> rfl) (by unfold maxLen; omega) (by omega) (by simp; omega) ?_
            intro v' w4 hown4 hgrow4 hnil4
            obtain ⟨g', cap', rfl⟩ := owns_succ hown4
            have bo : w4.heap[w1.heap.size]? = wr.heap[w1.heap.size]? := (hgrow4.block w1.heap.size (by simp; omega) (fun e => by have := (HB.out _ e.symm).1; omega)).trans ((Below.heap_alloc _ _ _ (by simp; omega)).trans (Below.heap_alloc _ _ _ hws))
            have bf : w4.heap[wr.heap.size]? = (wr.alloc (.cells #[.string nm, .string dt, .int .i64 sy] 41)).heap[wr.heap.size]? := (hgrow4.block wr.heap.size (by simp; omega) (fun e => by have := (HB.out _ e.symm).2; omega)).trans (Below.heap_alloc _ _ _ (by simp))
            have k0 := (World.cell?_of_block (a := ⟨wr.heap.size, 0, none⟩) bf).trans f0
            have k1 := (World.cell?_of_block (a := ⟨wr.heap.size, 1, none⟩) bf).trans f1
            have k2 := (World.cell?_of_block (a := ⟨wr.heap.size, 2, none⟩) bf).trans f2
            have y0 := (World.cell?_of_block (a := ⟨w1.heap.size, 0, none⟩) bo).trans o0
            have y1 := (World.frozen?_of_block (a := ⟨w1.heap.size, 0, none⟩) bo).trans z0
            have HW4 : Hid (w4.ownsRow (w1.heap.size + 1) 41 3 (.slice (some ⟨g', 0, none⟩) (k + 1) cap') (k + 1) (cellsF (cl xs ks k) ++ [Value.string nm, .string (dt.extract 0 (sy).toNat), .int .i64 (sy)])) := hown4
            have HB4 : Hid (Below w1.heap.size w1 w4) := ((hb.alloc hbs _).alloc (by simp; omega) _).drew.grown hgrow4 (by simp; omega) (fun g hg => by have := (HB.out g hg).1; omega)
            have HBX : Hid (w4.heap[w1.heap.size]? = some (.cells #[v, .int .i64 q, .int .i64 (-1)] 29 (0, 0))) := bo.trans hbox
            clear bo bf hown4 hgrow4 hnil4
            refine hK.out _ _ ?_ (fun hHeld => ?_)
            · (try dsimp only)
              (simp [go_sem, *])
            clear hK K
            try simp only [Act.put, List.setIfInBounds_toArray, List.set_cons_zero, List.set_cons_succ]
            refine wpAnyH_take (i := 18) (v := ?_) rfl (by kernel_rfl) (by kernel_rfl) (by kernel_rfl) (fun _ _ _ h => h) (Or.inl ⟨by rfl, ?_⟩) (by assumption) ?_
            rotate_left
            · intro w' hSw
              (try dsimp only at hSw)
              go_simp
              try with_reducible rfl
            simp only [Act.put, List.setIfInBounds_toArray, List.set_cons_zero, List.set_cons_succ]
            refine wpAnyH_ready (rs := [19]) (by kernel_rfl) (by simp) ?_
            refine AllReadyH.cons rfl (fun K hK => ?_) AllReadyH.nil
            go_simp
            refine hK.out _ _ ?_ (fun hHeld => ?_)
            · (try dsimp only)
              (simp [go_sem, *])
            clear hK K
            try simp only [Act.put, List.setIfInBounds_toArray, List.set_cons_zero, List.set_cons_succ]
            refine wpAnyH_done (by kernel_rfl) ?_ _
            refine NoPanic.normal ?_
            go_wp2_with fail
            refine ⟨⟨k + 1, .slice (some ⟨g', 0, none⟩) (k + 1) cap', by go_num, by omega, ?_, ?_, HB4.out.setCell (Nat.le_refl _) _⟩, by simp [intOf]; omega⟩
            · rw [heap_setCell_same _ _ _ _ _ _ HBX.out]; simp
            · rw [HC.out, HF.out, cellsF_snoc]
              exact owns_other HW4.out (by omega) 0
          · go_simp
            refine hK.out _ _ ?_ (fun hHeld => ?_)
            · (try dsimp only)
              (simp [go_sem, *])
            clear hK K
            try simp only [Act.put, List.setIfInBounds_toArray, List.set_cons_zero, List.set_cons_succ]
            refine wpAnyH_ready (rs := [1]) (by kernel_rfl) (by simp) ?_
            refine AllReadyH.cons rfl (fun K hK => ?_) AllReadyH.nil
            go_simp
            refine hK.out _ _ ?_ (fun hHeld => ?_)
            · (try dsimp only)
              (simp [go_sem, *])
            clear hK K
            try simp only [Act.put, List.setIfInBounds_toArray, List.set_cons_zero, List.set_cons_succ]
            refine wpAnyH_ready (rs := [17]) (by kernel_rfl) (by simp) ?_
            refine AllReadyH.cons rfl (fun K hK => ?_) AllReadyH.nil
            refine step_append_own rfl (.tmp 58) (.tmp 73) 27 rfl (w1.heap.size + 1) 41 i0 _ 3 40 Try.underlying27 hi hz0 hz1 hz2 rfl (by decide) v k (cellsF (cl xs ks k)) (by simp [Act.eval, Act.put]) HO.out ⟨wr.heap.size + 1, 0, none⟩ 1 1 [.string nm, .string (dt.extract 0 (sy).toNat), .int .i64 (sy)] (by simp [Act.eval, Act.put]) rfl HN.out (fun x hx => by simp at hx; rcases hx with rfl | rfl | rfl <;> rfl) (by unfold maxLen; omega) (by omega) (by simp; omega) ?_
            intro v' w4 hown4 hgrow4 hnil4
            obtain ⟨g', cap', rfl⟩ := owns_succ hown4
            have bo : w4.heap[w1.heap.size]? = wr.heap[w1.heap.size]? := (hgrow4.block w1.heap.size (by simp; omega) (fun e => by have := (HB.out _ e.symm).1; omega)).trans ((Below.heap_alloc _ _ _ (by simp; omega)).trans (Below.heap_alloc _ _ _ hws))
            have bf : w4.heap[wr.heap.size]? = (wr.alloc (.cells #[.string nm, .string dt, .int .i64 sy] 41)).heap[wr.heap.size]? := (hgrow4.block wr.heap.size (by simp; omega) (fun e => by have := (HB.out _ e.symm).2; omega)).trans (Below.heap_alloc _ _ _ (by simp))
            have k0 := (World.cell?_of_block (a := ⟨wr.heap.size, 0, none⟩) bf).trans f0
            have k1 := (World.cell?_of_block (a := ⟨wr.heap.size, 1, none⟩) bf).trans f1
            have k2 := (World.cell?_of_block (a := ⟨wr.heap.size, 2, none⟩) bf).trans f2
            have y0 := (World.cell?_of_block (a := ⟨w1.heap.size, 0, none⟩) bo).trans o0
            have y1 := (World.frozen?_of_block (a := ⟨w1.heap.size, 0, none⟩) bo).trans z0
            have HW4 : Hid (w4.ownsRow (w1.heap.size + 1) 41 3 (.slice (some ⟨g', 0, none⟩) (k + 1) cap') (k + 1) (cellsF (cl xs ks k) ++ [Value.string nm, .string (dt.extract 0 (sy).toNat), .int .i64 (sy)])) := hown4
            have HB4 : Hid (Below w1.heap.size w1 w4) := ((hb.alloc hbs _).alloc (by simp; omega) _).drew.grown hgrow4 (by simp; omega) (fun g hg => by have := (HB.out g hg).1; omega)
            have HBX : Hid (w4.heap[w1.heap.size]? = some (.cells #[v, .int .i64 q, .int .i64 (-1)] 29 (0, 0))) := bo.trans hbox
            clear bo bf hown4 hgrow4 hnil4
            refine hK.out _ _ ?_ (fun hHeld => ?_)
            · (try dsimp only)
              (simp [go_sem, *])
            clear hK K
            try simp only [Act.put, List.setIfInBounds_toArray, List.set_cons_zero, List.set_cons_succ]
            refine wpAnyH_take (i := 18) (v := ?_) rfl (by kernel_rfl) (by kernel_rfl) (by kernel_rfl) (fun _ _ _ h => h) (Or.inl ⟨by rfl, ?_⟩) (by assumption) ?_
            rotate_left
            · intro w' hSw
              (try dsimp only at hSw)
              go_simp
              try with_reducible rfl
            simp only [Act.put, List.setIfInBounds_toArray, List.set_cons_zero, List.set_cons_succ]
            refine wpAnyH_ready (rs := [19]) (by kernel_rfl) (by simp) ?_
            refine AllReadyH.cons rfl (fun K hK => ?_) AllReadyH.nil
            go_simp
            refine hK.out _ _ ?_ (fun hHeld => ?_)
            · (try dsimp only)
              (simp [go_sem, *])
            clear hK K
            try simp only [Act.put, List.setIfInBounds_toArray, List.set_cons_zero, List.set_cons_succ]
            refine wpAnyH_done (by kernel_rfl) ?_ _
            refine NoPanic.normal ?_
            go_wp2_with fail
            refine ⟨⟨k + 1, .slice (some ⟨g', 0, none⟩) (k + 1) cap', by go_num, by omega, ?_, ?_, HB4.out.setCell (Nat.le_refl _) _⟩, by simp [intOf]; omega⟩
            · rw [heap_setCell_same _ _ _ _ _ _ HBX.out]; simp
            · rw [HC.out, HF.out, cellsF_snoc]
              exact owns_other HW4.out (by omega) 0
      · have HF : Hid (crFl ks k ⟨nm, dt, sy⟩ = ⟨nm, dt.extract 0 (sy).toNat, sy⟩) := by
          show _ = _
          have e : kb ks k ((dt.size : Int) - sy) = 0 := by unfold kb; rw [if_neg hkk]
          simp only [crFl, crN, e, Int.add_zero]
        have h1 : (ks.length : Int) ≤ (k : Int) := by omega
        go_wp2_with fail
        have f0 : (wr.alloc (.cells #[.string nm, .string dt, .int .i64 sy] 41)).cell? ⟨wr.heap.size, 0, none⟩ = some (.string nm) := by simp
        have f1 : (wr.alloc (.cells #[.string nm, .string dt, .int .i64 sy] 41)).cell? ⟨wr.heap.size, 1, none⟩ = some (.string dt) := by simp
        have f2 : (wr.alloc (.cells #[.string nm, .string dt, .int .i64 sy] 41)).cell? ⟨wr.heap.size, 2, none⟩ = some (.int .i64 sy) := by simp
        have HO : Hid (((wr.alloc (.cells #[.string nm, .string dt, .int .i64 sy] 41)).alloc (.cells #[.string nm, .string (dt.extract 0 (sy).toNat), .int .i64 (sy)] 41)).drew.ownsRow (w1.heap.size + 1) 41 3 v k (cellsF (cl xs ks k))) := (hown.alloc _).alloc _
        have HN : Hid (∀ j u, [Value.string nm, .string (dt.extract 0 (sy).toNat), .int .i64 (sy)][j]? = some u → ((wr.alloc (.cells #[.string nm, .string dt, .int .i64 sy] 41)).alloc (.cells #[.string nm, .string (dt.extract 0 (sy).toNat), .int .i64 (sy)] 41)).drew.cell? ((⟨wr.heap.size + 1, 0, none⟩ : Addr).add j) = some u) := cell_second3 _ _ _ _ _ _
        have hwr : IntKind.i64.wrap (sy) = sy := by rw [IntKind.wrap_i64]; omega
        have hr1 : 0 ≤ sy := by omega
        have hr2 : sy ≤ (dt.size : Int) := by omega
        have HB : Hid (∀ g, v.ownBlock = some g → w1.heap.size + 1 ≤ g ∧ g < wr.heap.size) := fun g hg => ⟨owns_base hown g hg, owns_lt hown g hg⟩
        refine wp_region_noPanic ?_
        refine wp_region_held_drew (S := (fun w' => w'.cell? ⟨wr.heap.size, 0, none⟩ = some (.string nm) ∧ w'.cell? ⟨wr.heap.size, 1, none⟩ = some (.string dt) ∧ w'.cell? ⟨wr.heap.size, 2, none⟩ = some (.int .i64 sy))) (by kernel_rfl) ?_ (fun hHeld => ?_)
        · (try dsimp only)
          (simp [go_sem, *])
        refine wpAnyH_take (i := 0) (v := ?_) rfl (by kernel_rfl) (by kernel_rfl) (by kernel_rfl) (fun _ _ _ h => h) (Or.inl ⟨by rfl, ?_⟩) (by assumption) ?_
        rotate_left
        · intro w' hSw
          (try dsimp only at hSw)
          go_simp
          try with_reducible rfl
        simp only [Act.put, List.setIfInBounds_toArray, List.set_cons_zero, List.set_cons_succ]
        refine wpAnyH_take (i := 2) (v := ?_) rfl (by kernel_rfl) (by kernel_rfl) (by kernel_rfl) (fun _ _ _ h => h) (Or.inl ⟨by rfl, ?_⟩) (by assumption) ?_
        rotate_left
        · intro w' hSw
          (try dsimp only at hSw)
          go_simp
          try with_reducible rfl
        simp only [Act.put, List.setIfInBounds_toArray, List.set_cons_zero, List.set_cons_succ]
        refine wpAnyH_take (i := 3) (v := ?_) rfl (by kernel_rfl) (by kernel_rfl) (by kernel_rfl) (fun _ _ _ h => h) (Or.inl ⟨by rfl, ?_⟩) (by assumption) ?_
        rotate_left
        · intro w' hSw
          (try dsimp only at hSw)
          go_simp
          try with_reducible rfl
        simp only [Act.put, List.setIfInBounds_toArray, List.set_cons_zero, List.set_cons_succ]
        refine wpAnyH_take (i := 4) (v := ?_) rfl (by kernel_rfl) (by kernel_rfl) (by kernel_rfl) (fun _ _ _ h => h) (Or.inl ⟨by rfl, ?_⟩) (by assumption) ?_
        rotate_left
        · intro w' hSw
          (try dsimp only at hSw)
          go_simp
          try with_reducible rfl
        simp only [Act.put, List.setIfInBounds_toArray, List.set_cons_zero, List.set_cons_succ]
        refine wpAnyH_take (i := 5) (v := ?_) rfl (by kernel_rfl) (by kernel_rfl) (by kernel_rfl) (fun _ _ _ h => h) (Or.inl ⟨by rfl, ?_⟩) (by assumption) ?_
        rotate_left
        · intro w' hSw
          (try dsimp only at hSw)
          go_simp
          try with_reducible rfl
        simp only [Act.put, List.setIfInBounds_toArray, List.set_cons_zero, List.set_cons_succ]
        refine wpAnyH_take (i := 6) (v := ?_) rfl (by kernel_rfl) (by kernel_rfl) (by kernel_rfl) (fun _ _ _ h => h) (Or.inl ⟨by rfl, ?_⟩) (by assumption) ?_
        rotate_left
        · intro w' hSw
          (try dsimp only at hSw)
          go_simp
          try with_reducible rfl
        simp only [Act.put, List.setIfInBounds_toArray, List.set_cons_zero, List.set_cons_succ]
        refine wpAnyH_take (i := 7) (v := ?_) rfl (by kernel_rfl) (by kernel_rfl) (by kernel_rfl) (fun _ _ _ h => h) (Or.inl ⟨by rfl, ?_⟩) (by assumption) ?_
        rotate_left
        · intro w' hSw
          (try dsimp only at hSw)
          go_simp
          try with_reducible rfl
        simp only [Act.put, List.setIfInBounds_toArray, List.set_cons_zero, List.set_cons_succ]
        refine wpAnyH_take (i := 8) (v := ?_) rfl (by kernel_rfl) (by kernel_rfl) (by kernel_rfl) (fun _ _ _ h => h) (Or.inl ⟨by rfl, ?_⟩) (by assumption) ?_
        rotate_left
        · intro w' hSw
          (try dsimp only at hSw)
          go_simp
          try with_reducible rfl
        simp only [Act.put, List.setIfInBounds_toArray, List.set_cons_zero, List.set_cons_succ]
        refine wpAnyH_take (i := 9) (v := ?_) rfl (by kernel_rfl) (by kernel_rfl) (by kernel_rfl) (fun _ _ _ h => h) (Or.inl ⟨by rfl, ?_⟩) (by assumption) ?_
        rotate_left
        · intro w' hSw
          (try dsimp only at hSw)
          go_simp
          try with_reducible rfl
        simp only [Act.put, List.setIfInBounds_toArray, List.set_cons_zero, List.set_cons_succ]
        refine wpAnyH_take (i := 10) (v := ?_) rfl (by kernel_rfl) (by kernel_rfl) (by kernel_rfl) (fun _ _ _ h => h) (Or.inl ⟨by rfl, ?_⟩) (by assumption) ?_
        rotate_left
        · intro w' hSw
          (try dsimp only at hSw)
          go_simp
          try with_reducible rfl
        simp only [Act.put, List.setIfInBounds_toArray, List.set_cons_zero, List.set_cons_succ]
        refine wpAnyH_take (i := 11) (v := ?_) rfl (by kernel_rfl) (by kernel_rfl) (by kernel_rfl) (fun _ _ _ h => h) (Or.inl ⟨by rfl, ?_⟩) (by assumption) ?_
        rotate_left
        · intro w' hSw
          (try dsimp only at hSw)
          go_simp
          try with_reducible rfl
        simp only [Act.put, List.setIfInBounds_toArray, List.set_cons_zero, List.set_cons_succ]
        refine wpAnyH_take (i := 12) (v := ?_) rfl (by kernel_rfl) (by kernel_rfl) (by kernel_rfl) (fun _ _ _ h => h) (Or.inl ⟨by rfl, ?_⟩) (by assumption) ?_
        rotate_left
        · intro w' hSw
          (try dsimp only at hSw)
          go_simp
          try with_reducible rfl
        simp only [Act.put, List.setIfInBounds_toArray, List.set_cons_zero, List.set_cons_succ]
        refine wpAnyH_take (i := 13) (v := ?_) rfl (by kernel_rfl) (by kernel_rfl) (by kernel_rfl) (fun _ _ _ h => h) (Or.inl ⟨by rfl, ?_⟩) (by assumption) ?_
        rotate_left
        · intro w' hSw
          (try dsimp only at hSw)
          go_simp
          try with_reducible rfl
        simp only [Act.put, List.setIfInBounds_toArray, List.set_cons_zero, List.set_cons_succ]
        refine wpAnyH_take (i := 14) (v := ?_) rfl (by kernel_rfl) (by kernel_rfl) (by kernel_rfl) (fun _ _ _ h => h) (Or.inl ⟨by rfl, ?_⟩) (by assumption) ?_
        rotate_left
        · intro w' hSw
          (try dsimp only at hSw)
          go_simp
          try with_reducible rfl
        simp only [Act.put, List.setIfInBounds_toArray, List.set_cons_zero, List.set_cons_succ]
        refine wpAnyH_take (i := 15) (v := ?_) rfl (by kernel_rfl) (by kernel_rfl) (by kernel_rfl) (fun _ _ _ h => h) (Or.inl ⟨by rfl, ?_⟩) (by assumption) ?_
        rotate_left
        · intro w' hSw
          (try dsimp only at hSw)
          go_simp
          try with_reducible rfl
        simp only [Act.put, List.setIfInBounds_toArray, List.set_cons_zero, List.set_cons_succ]
        refine wpAnyH_ready (rs := [1, 16]) (by kernel_rfl) (by simp) ?_
        refine AllReadyH.cons rfl (fun K hK => ?_) (AllReadyH.cons rfl (fun K hK => ?_) AllReadyH.nil)
        · go_simp
          refine hK.out _ _ ?_ (fun hHeld => ?_)
          · (try dsimp only)
            (simp [go_sem, *])
          clear hK K
          try simp only [Act.put, List.setIfInBounds_toArray, List.set_cons_zero, List.set_cons_succ]
          refine wpAnyH_ready (rs := [16]) (by kernel_rfl) (by simp) ?_
          refine AllReadyH.cons rfl (fun K hK => ?_) AllReadyH.nil
          go_simp
          refine hK.out _ _ ?_ (fun hHeld => ?_)
          · (try dsimp only)
            (simp [go_sem, *])
          clear hK K
          try simp only [Act.put, List.setIfInBounds_toArray, List.set_cons_zero, List.set_cons_succ]
          refine wpAnyH_ready (rs := [17]) (by kernel_rfl) (by simp) ?_
          refine AllReadyH.cons rfl (fun K hK => ?_) AllReadyH.nil
          refine step_append_own rfl (.tmp 58) (.tmp 73) 27 rfl (w1.heap.size + 1) 41 i0 _ 3 40 Try.underlying27 hi hz0 hz1 hz2 rfl (by decide) v k (cellsF (cl xs ks k)) (by simp [Act.eval, Act.put]) HO.out ⟨wr.heap.size + 1, 0, none⟩ 1 1 [.string nm, .string (dt.extract 0 (sy).toNat), .int .i64 (sy)] (by simp [Act.eval, Act.put]) rfl HN.out (fun x hx => by simp at hx; rcases hx with rfl | rfl | rfl <;> rfl) (by unfold maxLen; omega) (by omega) (by simp; omega) ?_
          intro v' w4 hown4 hgrow4 hnil4
          obtain ⟨g', cap', rfl⟩ := owns_succ hown4
          have bo : w4.heap[w1.heap.size]? = wr.heap[w1.heap.size]? := (hgrow4.block w1.heap.size (by simp; omega) (fun e => by have := (HB.out _ e.symm).1; omega)).trans ((Below.heap_alloc _ _ _ (by simp; omega)).trans (Below.heap_alloc _ _ _ hws))
          have bf : w4.heap[wr.heap.size]? = (wr.alloc (.cells #[.string nm, .string dt, .int .i64 sy] 41)).heap[wr.heap.size]? := (hgrow4.block wr.heap.size (by simp; omega) (fun e => by have := (HB.out _ e.symm).2; omega)).trans (Below.heap_alloc _ _ _ (by simp))
          have k0 := (World.cell?_of_block (a := ⟨wr.heap.size, 0, none⟩) bf).trans f0
          have k1 := (World.cell?_of_block (a := ⟨wr.heap.size, 1, none⟩) bf).trans f1
          have k2 := (World.cell?_of_block (a := ⟨wr.heap.size, 2, none⟩) bf).trans f2
          have y0 := (World.cell?_of_block (a := ⟨w1.heap.size, 0, none⟩) bo).trans o0
          have y1 := (World.frozen?_of_block (a := ⟨w1.heap.size, 0, none⟩) bo).trans z0
          have HW4 : Hid (w4.ownsRow (w1.heap.size + 1) 41 3 (.slice (some ⟨g', 0, none⟩) (k + 1) cap') (k + 1) (cellsF (cl xs ks k) ++ [Value.string nm, .string (dt.extract 0 (sy).toNat), .int .i64 (sy)])) := hown4
          have HB4 : Hid (Below w1.heap.size w1 w4) := ((hb.alloc hbs _).alloc (by simp; omega) _).drew.grown hgrow4 (by simp; omega) (fun g hg => by have := (HB.out g hg).1; omega)
          have HBX : Hid (w4.heap[w1.heap.size]? = some (.cells #[v, .int .i64 q, .int .i64 (-1)] 29 (0, 0))) := bo.trans hbox
          clear bo bf hown4 hgrow4 hnil4
          refine hK.out _ _ ?_ (fun hHeld => ?_)
          · (try dsimp only)
            (simp [go_sem, *])
          clear hK K
          try simp only [Act.put, List.setIfInBounds_toArray, List.set_cons_zero, List.set_cons_succ]
          refine wpAnyH_take (i := 18) (v := ?_) rfl (by kernel_rfl) (by kernel_rfl) (by kernel_rfl) (fun _ _ _ h => h) (Or.inl ⟨by rfl, ?_⟩) (by assumption) ?_
          rotate_left
          · intro w' hSw
            (try dsimp only at hSw)
            go_simp
            try with_reducible rfl
          simp only [Act.put, List.setIfInBounds_toArray, List.set_cons_zero, List.set_cons_succ]
          refine wpAnyH_ready (rs := [19]) (by kernel_rfl) (by simp) ?_
          refine AllReadyH.cons rfl (fun K hK => ?_) AllReadyH.nil
          go_simp
          refine hK.out _ _ ?_ (fun hHeld => ?_)
          · (try dsimp only)
            (simp [go_sem, *])
          clear hK K
          try simp only [Act.put, List.setIfInBounds_toArray, List.set_cons_zero, List.set_cons_succ]
          refine wpAnyH_done (by kernel_rfl) ?_ _
          refine NoPanic.normal ?_
          go_wp2_with fail
          refine ⟨⟨k + 1, .slice (some ⟨g', 0, none⟩) (k + 1) cap', by go_num, by omega, ?_, ?_, HB4.out.setCell (Nat.le_refl _) _⟩, by simp [intOf]; omega⟩
          · rw [heap_setCell_same _ _ _ _ _ _ HBX.out]; simp
          · rw [HC.out, HF.out, cellsF_snoc]
            exact owns_other HW4.out (by omega) 0
        · go_simp
          refine hK.out _ _ ?_ (fun hHeld => ?_)
          · (try dsimp only)
            (simp [go_sem, *])
          clear hK K
          try simp only [Act.put, List.setIfInBounds_toArray, List.set_cons_zero, List.set_cons_succ]
          refine wpAnyH_ready (rs := [1]) (by kernel_rfl) (by simp) ?_
          refine AllReadyH.cons rfl (fun K hK => ?_) AllReadyH.nil
          go_simp
          refine hK.out _ _ ?_ (fun hHeld => ?_)
          · (try dsimp only)
            (simp [go_sem, *])
          clear hK K
          try simp only [Act.put, List.setIfInBounds_toArray, List.set_cons_zero, List.set_cons_succ]
          refine wpAnyH_ready (rs := [17]) (by kernel_rfl) (by simp) ?_
          refine AllReadyH.cons rfl (fun K hK => ?_) AllReadyH.nil
          refine step_append_own rfl (.tmp 58) (.tmp 73) 27 rfl (w1.heap.size + 1) 41 i0 _ 3 40 Try.underlying27 hi hz0 hz1 hz2 rfl (by decide) v k (cellsF (cl xs ks k)) (by simp [Act.eval, Act.put]) HO.out ⟨wr.heap.size + 1, 0, none⟩ 1 1 [.string nm, .string (dt.extract 0 (sy).toNat), .int .i64 (sy)] (by simp [Act.eval, Act.put]) rfl HN.out (fun x hx => by simp at hx; rcases hx with rfl | rfl | rfl <;> rfl) (by unfold maxLen; omega) (by omega) (by simp; omega) ?_
          intro v' w4 hown4 hgrow4 hnil4
          obtain ⟨g', cap', rfl⟩ := owns_succ hown4
          have bo : w4.heap[w1.heap.size]? = wr.heap[w1.heap.size]? := (hgrow4.block w1.heap.size (by simp; omega) (fun e => by have := (HB.out _ e.symm).1; omega)).trans ((Below.heap_alloc _ _ _ (by simp; omega)).trans (Below.heap_alloc _ _ _ hws))
          have bf : w4.heap[wr.heap.size]? = (wr.alloc (.cells #[.string nm, .string dt, .int .i64 sy] 41)).heap[wr.heap.size]? := (hgrow4.block wr.heap.size (by simp; omega) (fun e => by have := (HB.out _ e.symm).2; omega)).trans (Below.heap_alloc _ _ _ (by simp))
          have k0 := (World.cell?_of_block (a := ⟨wr.heap.size, 0, none⟩) bf).trans f0
          have k1 := (World.cell?_of_block (a := ⟨wr.heap.size, 1, none⟩) bf).trans f1
          have k2 := (World.cell?_of_block (a := ⟨wr.heap.size, 2, none⟩) bf).trans f2
          have y0 := (World.cell?_of_block (a := ⟨w1.heap.size, 0, none⟩) bo).trans o0
          have y1 := (World.frozen?_of_block (a := ⟨w1.heap.size, 0, none⟩) bo).trans z0
          have HW4 : Hid (w4.ownsRow (w1.heap.size + 1) 41 3 (.slice (some ⟨g', 0, none⟩) (k + 1) cap') (k + 1) (cellsF (cl xs ks k) ++ [Value.string nm, .string (dt.extract 0 (sy).toNat), .int .i64 (sy)])) := hown4
          have HB4 : Hid (Below w1.heap.size w1 w4) := ((hb.alloc hbs _).alloc (by simp; omega) _).drew.grown hgrow4 (by simp; omega) (fun g hg => by have := (HB.out g hg).1; omega)
          have HBX : Hid (w4.heap[w1.heap.size]? = some (.cells #[v, .int .i64 q, .int .i64 (-1)] 29 (0, 0))) := bo.trans hbox
          clear bo bf hown4 hgrow4 hnil4
          refine hK.out _ _ ?_ (fun hHeld => ?_)
          · (try dsimp only)
            (simp [go_sem, *])
          clear hK K
          try simp only [Act.put, List.setIfInBounds_toArray, List.set_cons_zero, List.set_cons_succ]
          refine wpAnyH_take (i := 18) (v := ?_) rfl (by kernel_rfl) (by kernel_rfl) (by kernel_rfl) (fun _ _ _ h => h) (Or.inl ⟨by rfl, ?_⟩) (by assumption) ?_
          rotate_left
          · intro w' hSw
            (try dsimp only at hSw)
            go_simp
            try with_reducible rfl
          simp only [Act.put, List.setIfInBounds_toArray, List.set_cons_zero, List.set_cons_succ]
          refine wpAnyH_ready (rs := [19]) (by kernel_rfl) (by simp) ?_
          refine AllReadyH.cons rfl (fun K hK => ?_) AllReadyH.nil
          go_simp
          refine hK.out _ _ ?_ (fun hHeld => ?_)
          · (try dsimp only)
            (simp [go_sem, *])
          clear hK K
          try simp only [Act.put, List.setIfInBounds_toArray, List.set_cons_zero, List.set_cons_succ]
          refine wpAnyH_done (by kernel_rfl) ?_ _
          refine NoPanic.normal ?_
          go_wp2_with fail
          refine ⟨⟨k + 1, .slice (some ⟨g', 0, none⟩) (k + 1) cap', by go_num, by omega, ?_, ?_, HB4.out.setCell (Nat.le_refl _) _⟩, by simp [intOf]; omega⟩
          · rw [heap_setCell_same _ _ _ _ _ _ HBX.out]; simp
          · rw [HC.out, HF.out, cellsF_snoc]
            exact owns_other HW4.out (by omega) 0
    · obtain rfl : k = xs.length := by omega
      rw [cl_crs, ← HY.out] at hown
      obtain ⟨hyl, a3, cap3, hv3, hres3⟩ := res_of_owns hown
      subst hv3
      have hR2 : wr.heap[w.heap.size + 1]? = some (.cells #[.slice none 0 0, .int .i64 0, .int .i64 0] 29 (0, 0)) := (hb.block _ hs1).trans hR1
      obtain ⟨⟨r0, r1, r2⟩, s0, s1, s2⟩ := three_cells hR2
      have hne1 : w.heap.size + 1 ≠ w1.heap.size := by omega
      have hne2 : w1.heap.size ≠ w.heap.size + 1 := by omega
      have hrs : w.heap.size + 1 < wr.heap.size := by omega
      clear hown hbox
      go_wp2_with fail
      refine bodyPost_ret (v := fsV a3 ys.length cap3 q (-1)) (by simp [results, Try.results5, go_sem, r0, r1, r2, o0, o1, o2, hne1, hne2]) rfl ⟨a3, cap3, rfl, ?_, ?_⟩
      · exact (hres3.kept (fun k h1 h2 => three_other _ _ _ _ (by omega))).base (by omega)
      · exact (hbb.trans (hb.mono hbb.size)).trans (three_below _ _ _ _ (by omega))
end Go.Proofs.Ytnnhdfplbhdcaac
