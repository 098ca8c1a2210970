import Derived.Test.YtphikgobdfknkaaGreatDoorRmX
import Derived.Deep.RegionLawGrows
import Derived.Deep.RegionHeldLaw
namespace Go.Proofs.YtphikgobdfknkaaGreatDoor
open Go.RowKit Go.Maps
set_option linter.unusedVariables false
set_option linter.unusedSimpArgs false

/-- How far the reading has come. -/
def S1 (s : ByteArray) (n k : Nat) (xs : List Tr) (A : Nat) (fl : Bool) : Prop :=
  (fl = true → decEd s = none) ∧ (fl = false → ∃ c, gv s 0 = some (n, c) ∧ n ≤ 1000 ∧ pRs s k c = some (xs, A))
def S2 (s : ByteArray) (m k : Nat) (xs : List Tr) (ks : List Int) (A : Nat) (fl : Bool) : Prop :=
  (fl = true → decEd s = none) ∧ (fl = false → ∃ n c B d, gv s 0 = some (n, c) ∧ n ≤ 1000 ∧ pRs s n c = some (xs, B) ∧ gv s (B : Int) = some (m, d) ∧ m ≤ 1000 ∧ pIs s k (B + d) = some (ks, A))
def S3 (s : ByteArray) (xs : List Tr) (ks : List Int) (A : Nat) (fl : Bool) : Prop :=
  (fl = true → decEd s = none) ∧ (fl = false → ∃ n c B m d, gv s 0 = some (n, c) ∧ n ≤ 1000 ∧ pRs s n c = some (xs, B) ∧ gv s (B : Int) = some (m, d) ∧ m ≤ 1000 ∧ pIs s m (B + d) = some (ks, A))
theorem none0 {s : ByteArray} (h : ∀ n c, gv s 0 = some (n, c) → 1000 < n) : decEd s = none := by
  have : pE s = none := by
    unfold pE
    cases hg : gv s 0 with
    | none => rfl
    | some q => simp only [if_pos (h q.1 q.2 hg)]
  simp only [decEd, this]
theorem none1 {s : ByteArray} {n c : Nat} (h1 : gv s 0 = some (n, c)) (h2 : pRs s n c = none) : decEd s = none := by
  have : pE s = none := by
    simp only [pE, h1, h2]
    split <;> rfl
  simp only [decEd, this]
theorem none2 {s : ByteArray} {n c B : Nat} {xs : List Tr} (h1 : gv s 0 = some (n, c)) (h2 : pRs s n c = some (xs, B)) (h3 : ∀ m d, gv s (B : Int) = some (m, d) → 1000 < m) : decEd s = none := by
  have : pE s = none := by
    simp only [pE, h1, h2]
    split
    · rfl
    · cases hg : gv s (B : Int) with
      | none => rfl
      | some q => simp only [if_pos (h3 q.1 q.2 hg)]
  simp only [decEd, this]
theorem none3 {s : ByteArray} {n c B m d : Nat} {xs : List Tr} (h1 : gv s 0 = some (n, c)) (h2 : pRs s n c = some (xs, B)) (h3 : gv s (B : Int) = some (m, d)) (h4 : pIs s m (B + d) = none) : decEd s = none := by
  have : pE s = none := by
    simp only [pE, h1, h2, h3, h4]
    split
    · rfl
    · split <;> rfl
  simp only [decEd, this]
theorem none4 {s : ByteArray} {n c B m d E : Nat} {xs : List Tr} {ks : List Int} (h1 : gv s 0 = some (n, c)) (h2 : pRs s n c = some (xs, B)) (h3 : gv s (B : Int) = some (m, d)) (h4 : pIs s m (B + d) = some (ks, E)) (h5 : pZ s E = none) : decEd s = none := by
  have : pE s = none := by
    simp only [pE, h1, h2, h3, h4, h5]
    split
    · rfl
    · split <;> rfl
  simp only [decEd, this]
theorem some4 {s : ByteArray} {n c B m d E lg nx la Z : Nat} {xs : List Tr} {ks : List Int} (h1 : gv s 0 = some (n, c)) (hn : n ≤ 1000) (h2 : pRs s n c = some (xs, B)) (h3 : gv s (B : Int) = some (m, d)) (hm : m ≤ 1000) (h4 : pIs s m (B + d) = some (ks, E)) (h5 : pZ s E = some (lg, nx, la, Z)) :
    pE s = some (⟨xs, ks, lg, nx, la⟩, Z) := by
  simp only [pE, h1, h2, h3, h4, h5]
  rw [if_neg (by omega), if_neg (by omega)]

theorem S1_zero (s : ByteArray) : S1 s (rdC s 1000 0 false).1 0 [] (rdC s 1000 0 false).2.1 (rdC s 1000 0 false).2.2 := by
  rcases rdC_gv s 1000 0 with ⟨n, c, hg, hn, hr⟩ | ⟨hg, hr⟩
  · rw [hr]
    refine ⟨fun h => (by cases h), fun _ => ⟨c, hg, hn, ?_⟩⟩
    simp [pRs]
  · rw [hr]
    exact ⟨fun _ => none0 hg, fun h => by cases h⟩
theorem S1_succ {s : ByteArray} {n k A : Nat} {xs : List Tr} {fl : Bool} (h : S1 s n k xs A fl) (hk : k < n) : S1 s n (k + 1) (xs ++ [(rdR s A fl).1]) (rdR s A fl).2.1 (rdR s A fl).2.2 := by
  cases fl with
  | true =>
    have := rdR_fl s A
    exact ⟨fun _ => h.1 rfl, fun h => by rw [this] at h; cases h⟩
  | false =>
    obtain ⟨c, h1, h2, h3⟩ := h.2 rfl
    rcases rdR_pR s A with ⟨t, E, hp, hr⟩ | ⟨hp, hr⟩
    · rw [hr]
      exact ⟨fun h => (by cases h), fun _ => ⟨c, h1, h2, by simp only [pRs, h3, hp]⟩⟩
    · refine ⟨fun _ => none1 h1 (pRs_none (k := k + 1) (by simp only [pRs, h3, hp]) n (by omega)), fun h => by rw [hr] at h; cases h⟩
theorem rdC_fl (s : ByteArray) (M A : Nat) : (rdC s M A true).2.2 = true := by
  unfold rdC
  split
  · rfl
  · exact rdN_fl s A
theorem S2_zero {s : ByteArray} {n A : Nat} {xs : List Tr} {fl : Bool} (h : S1 s n n xs A fl) : S2 s (rdC s 1000 A fl).1 0 xs [] (rdC s 1000 A fl).2.1 (rdC s 1000 A fl).2.2 := by
  cases fl with
  | true =>
    have := rdC_fl s 1000 A
    exact ⟨fun _ => h.1 rfl, fun h => by rw [this] at h; cases h⟩
  | false =>
    obtain ⟨c, h1, h2, h3⟩ := h.2 rfl
    rcases rdC_gv s 1000 A with ⟨m, d, hg, hm, hr⟩ | ⟨hg, hr⟩
    · rw [hr]
      exact ⟨fun h => (by cases h), fun _ => ⟨n, c, A, d, h1, h2, h3, hg, hm, by simp only [pIs]⟩⟩
    · rw [hr]
      exact ⟨fun _ => none2 h1 h3 hg, fun h => by cases h⟩
theorem S2_succ {s : ByteArray} {m k A : Nat} {xs : List Tr} {ks : List Int} {fl : Bool} (h : S2 s m k xs ks A fl) (hk : k < m) : S2 s m (k + 1) xs (ks ++ [((rdN s A fl).1 : Int)]) (rdN s A fl).2.1 (rdN s A fl).2.2 := by
  cases fl with
  | true =>
    have := rdN_fl s A
    exact ⟨fun _ => h.1 rfl, fun h => by rw [this] at h; cases h⟩
  | false =>
    obtain ⟨n, c, B, d, h1, h2, h3, h4, h5, h6⟩ := h.2 rfl
    rcases rdN_gv s A with ⟨x, y, hp, hr⟩ | ⟨hp, hr⟩
    · rw [hr]
      exact ⟨fun h => (by cases h), fun _ => ⟨n, c, B, d, h1, h2, h3, h4, h5, by simp only [pIs, h6, hp]⟩⟩
    · exact ⟨fun _ => none3 h1 h3 h4 (pIs_none (k := k + 1) (by simp only [pIs, h6, hp]) m (by omega)), fun h => by rw [hr] at h; cases h⟩
theorem S3_of {s : ByteArray} {m A : Nat} {xs : List Tr} {ks : List Int} {fl : Bool} (h : S2 s m m xs ks A fl) : S3 s xs ks A fl :=
  ⟨h.1, fun hf => by obtain ⟨n, c, B, d, h1, h2, h3, h4, h5, h6⟩ := h.2 hf; exact ⟨n, c, B, m, d, h1, h2, h3, h4, h5, h6⟩⟩
theorem S3_end {s : ByteArray} {A : Nat} {xs : List Tr} {ks : List Int} {fl : Bool} (h : S3 s xs ks A fl) {r1 r2 r3 : Nat × Nat × Bool} (e1 : rdN s A fl = r1) (e2 : rdN s r1.2.1 r1.2.2 = r2) (e3 : rdN s r2.2.1 r2.2.2 = r3) :
    (r3.2.2 = true → decEd s = none) ∧ (r3.2.2 = false → pE s = some (⟨xs, ks, r1.1, r2.1, r3.1⟩, r3.2.1)) := by
  cases fl with
  | true =>
    have f1 : r1.2.2 = true := by rw [← e1]; exact rdN_fl s A
    have f2 : r2.2.2 = true := by rw [← e2, f1]; exact rdN_fl s _
    have f3 : r3.2.2 = true := by rw [← e3, f2]; exact rdN_fl s _
    exact ⟨fun _ => h.1 rfl, fun h => by rw [f3] at h; cases h⟩
  | false =>
    obtain ⟨n, c, B, m, d, h1, h2, h3, h4, h5, h6⟩ := h.2 rfl
    rcases rdN_gv s A with ⟨lg, x, hp, hr⟩ | ⟨hp, hr⟩
    · rw [hr] at e1
      subst e1
      dsimp only at e2
      rcases rdN_gv s (A + x) with ⟨nx, y, hp2, hr2⟩ | ⟨hp2, hr2⟩
      · rw [hr2] at e2
        subst e2
        dsimp only at e3
        rcases rdN_gv s (A + x + y) with ⟨la, z, hp3, hr3⟩ | ⟨hp3, hr3⟩
        · rw [hr3] at e3
          subst e3
          exact ⟨fun h => (by cases h), fun _ => some4 h1 h2 h3 h4 h5 h6 (by simp only [pZ, hp, hp2, hp3])⟩
        · rw [e3] at hr3
          exact ⟨fun _ => none4 h1 h3 h4 h6 (by simp only [pZ, hp, hp2, hp3]), fun h => by rw [hr3] at h; cases h⟩
      · rw [e2] at hr2
        have f3 : r3.2.2 = true := by rw [← e3, hr2]; exact rdN_fl s _
        exact ⟨fun _ => none4 h1 h3 h4 h6 (by simp only [pZ, hp, hp2]), fun h => by rw [f3] at h; cases h⟩
    · rw [e1] at hr
      have f2 : r2.2.2 = true := by rw [← e2, hr]; exact rdN_fl s _
      have f3 : r3.2.2 = true := by rw [← e3, f2]; exact rdN_fl s _
      exact ⟨fun _ => none4 h1 h3 h4 h6 (by simp only [pZ, hp]), fun h => by rw [f3] at h; cases h⟩
/-- Two rows of different kinds lie in different blocks. -/
theorem owns_ne {w : World} {B B' n n' z z' : Nat} {t t' : TypeId} {v v' : Value} {xs xs' : List Value} (h : w.ownsRow B t z v n xs) (h' : w.ownsRow B' t' z' v' n' xs') (ht : t ≠ t') : ∀ g, v.ownBlock = some g → v'.ownBlock ≠ some g := by
  intro g hg hg'
  rcases h.2 with ⟨rfl, _⟩ | ⟨b, cap, cur, rfl, _, hb, _⟩
  · cases hg
  · rcases h'.2 with ⟨rfl, _⟩ | ⟨b', cap', cur', rfl, _, hb', _⟩
    · cases hg'
    · simp [Value.ownBlock] at hg hg'
      subst hg hg'
      rw [hb] at hb'
      simp at hb'
      exact ht hb'.2
theorem owns_lt {w : World} {B n size : Nat} {e : TypeId} {v : Value} {xs : List Value} (h : w.ownsRow B e size v n xs) : ∀ k, v.ownBlock = some k → k < w.heap.size := by
  intro k hk
  rcases h.2 with ⟨rfl, _⟩ | ⟨g, cap, cur, rfl, hg, hb, _⟩
  · cases hk
  · simp [Value.ownBlock] at hk
    subst hk
    exact heap_lt hb
end Go.Proofs.YtphikgobdfknkaaGreatDoor
namespace Go.Proofs.YtphikgobdfknkaaGreatDoor
open Go.RowKit Go.Maps
set_option linter.unusedVariables false
set_option linter.unusedSimpArgs false

theorem cell_first1 (w : World) (x : Value) (t : TypeId) : ∀ j v, [x][j]? = some v → (w.alloc (.cells #[x] t)).cell? ((⟨w.heap.size, 0, none⟩ : Addr).add j) = some v := by
  intro j v hj
  rw [Go.WideShapes.add_plain]
  match j, hj with
  | 0, hj => cases hj; simp

theorem owns_succ {W : World} {base : Nat} {e : TypeId} {size : Nat} {v : Value} {k : Nat} {xs : List Value} (h : W.ownsRow base e size v (k + 1) xs) : ∃ g cap, v = .slice (some ⟨g, 0, none⟩) (k + 1) cap := by
  rcases h.2 with ⟨_, h0⟩ | ⟨g, cap, _, rfl, _⟩
  · omega
  · exact ⟨g, cap, rfl⟩
theorem Only.onto {p B : Nat} {w w' w'' : World} (h : Only p w w') (hb : Below B w' w'') (hB : w.heap.size ≤ B) : Only p w w'' :=
  ⟨hb.os.trans h.os, hb.tape.trans h.tape, hb.output.trans h.output, Nat.le_trans h.size hb.size, fun k hk hn => (hb.block k (by omega)).trans (h.block k hk hn)⟩

set_option maxRecDepth 100000 in
set_option maxHeartbeats 3000000 in
theorem edit_any (p : Nat) (s : ByteArray) (w : World) (h : Rd w p s 0 false) (hs : s.size ≤ 1048576) :
    Calls Tryz.prog 88 #[.pointer (some ⟨p, 0, none⟩)] w fun r w' => ∃ (a : Option Addr) (ca : Nat) (d : Option Addr) (cd : Nat) (e : Ed) (A : Nat) (fl : Bool), r = .returned (edV a ca d cd e) ∧ Rd w' p s A fl ∧ ResT w' w.heap.size a e.ad ∧ ResI w' w.heap.size d e.dl ∧ FitsT e.ad ∧ e.ad.length ≤ 1000 ∧ e.dl.length ≤ 1000 ∧ Hid (fl = true → decEd s = none) ∧ Hid (fl = false → pE s = some (e, A)) ∧ Only p w w' := by
  obtain ⟨i0, hi, hz0, hz1, hz2⟩ := info_parts iRef_info
  obtain ⟨j0, ji, jz0, jz1, jz2⟩ := info_parts int_info
  have hpl := h.cells.2.2.2.2.2
  generalize hW0 : (w.alloc (.cells #[.slice none 0 0, .slice none 0 0, .int .i64 0, .int .i64 0, .int .i64 0] 68)).alloc (.cells #[.slice none 0 0, .slice none 0 0, .int .i64 0, .int .i64 0, .int .i64 0] 68) = W0
  have hR0 : W0.heap[w.heap.size]? = some (.cells #[.slice none 0 0, .slice none 0 0, .int .i64 0, .int .i64 0, .int .i64 0] 68 (0, 0)) := by rw [← hW0, alloc_old (by simp)]; exact World.heap_alloc_new _ _
  have hQ0 : W0.heap[w.heap.size + 1]? = some (.cells #[.slice none 0 0, .slice none 0 0, .int .i64 0, .int .i64 0, .int .i64 0] 68 (0, 0)) := by rw [← hW0, ← size_alloc]; exact World.heap_alloc_new _ _
  have hs0 : W0.heap.size = w.heap.size + 2 := by rw [← hW0, size_alloc, size_alloc]
  have hb0 : Below w.heap.size w W0 := by rw [← hW0]; exact ((Below.refl _ _).alloc (Nat.le_refl _) _).alloc (by simp) _
  have h0 := h.below hb0
  have hO0 : Only p w W0 := Only.of hb0
  have HC := hd (fun (w : World) (h : Rd w p s 0 false) => count_any p 0 1000 s false w h hs (by omega) (by omega))
  have HS0 := hd (S1_zero s)
  have hle0 := rdC_le (s := s) (M := 1000) (A := 0) false (by omega)
  have HF4 := hd cell_first4
  have HF1 := hd cell_first1
  generalize rdC s 1000 0 false = r0 at *
  obtain ⟨n, A0, f0⟩ := r0
  dsimp only at *
  go_enter Tryz.func88, Tryz.ntmps88
  go_wp2_with fail
  clear hW0
  refine (HC.out _ h0).mono ?_
  rintro e w1 ⟨rfl, h1, ho1⟩
  have hR1 := (ho1.block w.heap.size (by omega) (by omega)).trans hR0
  have hQ1 := (ho1.block (w.heap.size + 1) (by omega) (by omega)).trans hQ0
  have hO1 := hO0.trans ho1
  have hs1 : w.heap.size + 2 ≤ w1.heap.size := by have := ho1.size; omega
  clear hR0 hQ0 hb0 h0 hO0 ho1 HC h
  go_wp2_with fail
  go_loopw [6] (fun y wr => ∃ (k A : Nat) (fl : Bool) (xs : List Tr) (v : Value), y = .int .i64 k ∧ k ≤ n ∧ A ≤ s.size ∧ Rd wr p s A fl ∧ Hid (S1 s n k xs A fl) ∧ Hid (xs.length = k) ∧ Hid (∀ t ∈ xs, t.lo.size ≤ s.size ∧ t.hi.size ≤ s.size) ∧ wr.ownsRow (w.heap.size + 2) 45 4 v k (cellsT xs) ∧ wr.heap[w.heap.size + 1]? = some (.cells #[v, .slice none 0 0, .int .i64 0, .int .i64 0, .int .i64 0] 68 (0, 0)) ∧ wr.heap[w.heap.size]? = some (.cells #[.slice none 0 0, .slice none 0 0, .int .i64 0, .int .i64 0, .int .i64 0] 68 (0, 0)) ∧ Only p w wr ∧ w.heap.size + 2 ≤ wr.heap.size) (fun y _ => n - (intOf y).toNat)
  case atStart => exact ⟨0, A0, f0, [], .slice none 0 0, rfl, by omega, hle0.1, h1, HS0, rfl, fun t ht => absurd ht (by simp), ownsNil _ _ _ _, hQ1, hR1, hO1, hs1⟩
  case round =>
    clear h1 hR1 hQ1 hO1 hs1 HS0
    obtain ⟨k, A, fl, xs, v, rfl, hk, hA, hrd, HS, HL, HX, hown, hQ, hR, hO, hsz⟩ := hrel
    by_cases hlt : k < n
    · have hlt' : (k : Int) < n := by omega
      have HS' := hd (S1_succ HS.out hlt)
      have HT := hd (fun (w : World) (h : Rd w p s A fl) => tableRef_any p A s fl w h hs hA)
      have hle := rdR_le (s := s) fl hA
      generalize rdR s A fl = r at *
      obtain ⟨⟨nu, lv, lo, hi'⟩, A', fl'⟩ := r
      dsimp only at *
      have HX' : Hid (∀ t ∈ xs ++ [(⟨nu, lv, lo, hi'⟩ : Tr)], t.lo.size ≤ s.size ∧ t.hi.size ≤ s.size) := fun t ht => by
        rcases List.mem_append.1 ht with ht | ht
        · exact HX.out t ht
        · simp only [List.mem_singleton] at ht
          subst ht
          exact hle.2
      have HL' : Hid ((xs ++ [(⟨nu, lv, lo, hi'⟩ : Tr)]).length = k + 1) := by show _ = _; rw [List.length_append, HL.out]; rfl
      obtain ⟨x0, x1, x2, x3, x4⟩ := five_cells hQ
      obtain ⟨y0, -, -, -, -⟩ := five_cells hR
      have HRd := hd hrd
      have HOw := hd hown
      have HO := hd hO
      have HQ := hd hQ
      have HR := hd hR
      clear hrd hown hO hQ hR HS HX HL
      go_wp2_with fail
      refine wp_region_noPanic ?_
      refine wp_region_held_drew (S := (fun w' => w'.cell? ⟨w.heap.size, 0, none⟩ = some (.slice none 0 0))) (by kernel_rfl) ?_ (fun hHeld => ?_)
      · (try dsimp only)
        (simp [go_sem, *])
      refine wpAnyH_take (i := 0) (v := ?_) rfl (by kernel_rfl) (by kernel_rfl) (by kernel_rfl) (fun _ _ _ h => h) (Or.inl ⟨by rfl, ?_⟩) (by assumption) ?_
      rotate_left
      · intro w' hSw
        (try dsimp only at hSw)
        go_simp
        try with_reducible rfl
      simp only [Act.put, List.setIfInBounds_toArray, List.set_cons_zero, List.set_cons_succ]
      refine wpAnyH_take (i := 2) (v := ?_) rfl (by kernel_rfl) (by kernel_rfl) (by kernel_rfl) (fun _ _ _ h => h) (Or.inl ⟨by rfl, ?_⟩) (by assumption) ?_
      rotate_left
      · intro w' hSw
        (try dsimp only at hSw)
        go_simp
        try with_reducible rfl
      simp only [Act.put, List.setIfInBounds_toArray, List.set_cons_zero, List.set_cons_succ]
      refine wpAnyH_ready (rs := [1, 3]) (by kernel_rfl) (by simp) ?_
      refine AllReadyH.cons rfl (fun K hK => ?_) (AllReadyH.cons rfl (fun K hK => ?_) AllReadyH.nil)
      · go_simp
        refine hK.out _ _ ?_ (fun hHeld => ?_)
        · (try dsimp only)
          (simp [go_sem, *])
        clear hK K
        try simp only [Act.put, List.setIfInBounds_toArray, List.set_cons_zero, List.set_cons_succ]
        refine wpAnyH_ready (rs := [3]) (by kernel_rfl) (by simp) ?_
        refine AllReadyH.cons rfl (fun K hK => ?_) AllReadyH.nil
        go_simp
        refine (HT.out wr.drew HRd.out).mono ?_
        rintro e w3 ⟨rfl, h3, ho3⟩
        have hQ3 := (ho3.block (w.heap.size + 1) (by show _ < wr.heap.size; omega) (by omega)).trans HQ.out
        have hR3 := (ho3.block w.heap.size (by show _ < wr.heap.size; omega) (by omega)).trans HR.out
        have k0 := (five_cells hQ3).1
        have l0 := (five_cells hR3).1
        have hB3 : w.heap.size + 2 ≤ w3.heap.size := Nat.le_trans hsz ho3.size
        have HW3 := hd (owns_blocks (w := wr.drew) HOw.out (fun g hg => ho3.block g (owns_lt HOw.out g hg) (by have := owns_base HOw.out g hg; omega)))
        have HO3 := hd (HO.out.trans (Only.trans (⟨rfl, rfl, rfl, Nat.le_refl _, fun _ _ _ => rfl⟩ : Only p wr wr.drew) ho3))
        have HR3 := hd h3
        have HQ3 := hd hQ3
        have HZ3 := hd hR3
        have hq3 : w.heap.size + 1 < w3.heap.size := (by omega)
        have hr3 : w.heap.size < w3.heap.size := (by omega)
        clear h3 ho3 hQ3 hR3
        refine hK.out _ _ ?_ (fun hHeld => ?_)
        · (try dsimp only)
          (simp [go_sem, *])
        clear hK K
        try simp only [Act.put, List.setIfInBounds_toArray, List.set_cons_zero, List.set_cons_succ]
        refine wpAnyH_ready (rs := [4]) (by kernel_rfl) (by simp) ?_
        refine AllReadyH.cons rfl (fun K hK => ?_) AllReadyH.nil
        go_simp
        refine hK.out _ _ ?_ (fun hHeld => ?_)
        · (try dsimp only)
          (simp [go_sem, *])
        clear hK K
        try simp only [Act.put, List.setIfInBounds_toArray, List.set_cons_zero, List.set_cons_succ]
        refine wpAnyH_ready (rs := [5]) (by kernel_rfl) (by simp) ?_
        refine AllReadyH.cons rfl (fun K hK => ?_) AllReadyH.nil
        refine step_append_own rfl (.tmp 9) (.tmp 12) 38 rfl (w.heap.size + 2) 45 i0 _ 4 48 Tryz.underlying38 hi hz0 hz1 hz2 rfl (by decide) v k (cellsT xs) (by simp [Act.eval, Act.put]) (World.ownsRow.alloc HW3.out _) ⟨w3.heap.size, 0, none⟩ 1 1 [.int .i64 nu, .int .i64 lv, .string lo, .string hi'] (by simp [Act.eval, Act.put]) rfl (HF4.out w3 _ _ _ _ _) (fun x hx => by simp at hx; rcases hx with rfl | rfl | rfl | rfl <;> rfl) (by unfold maxLen; omega) (by omega) (by simp; omega) ?_
        intro v8 w8 hown8 hgrow8 hnil8
        obtain ⟨g8, cap8, rfl⟩ := owns_succ hown8
        have hb38 : Below (w.heap.size + 2) w3 w8 := ((Below.refl (w.heap.size + 2) w3).alloc hB3 _).grown hgrow8 (by simp; omega) (owns_base HW3.out)
        have hQ8 := (hb38.block (w.heap.size + 1) (by omega)).trans HQ3.out
        have hR8 := (hb38.block w.heap.size (by omega)).trans HZ3.out
        have q0 := (five_cells hQ8).1
        have z0 := (five_free hQ8).1
        have r0 := (five_cells hR8).1
        have hq8 : w.heap.size + 1 < w8.heap.size := heap_lt hQ8
        have HRd8 := hd (show Rd w8 p s A' fl' from (hb38.block p (by omega)).trans HR3.out)
        have HO8 := hd (Only.onto HO3.out hb38 (by omega))
        have HW8 := hd hown8
        have HQ8 := hd hQ8
        have HZ8 := hd hR8
        clear hown8 hgrow8 hnil8 hb38 hQ8 hR8
        refine hK.out _ _ ?_ (fun hHeld => ?_)
        · (try dsimp only)
          (simp [go_sem, *])
        clear hK K
        try simp only [Act.put, List.setIfInBounds_toArray, List.set_cons_zero, List.set_cons_succ]
        refine wpAnyH_take (i := 6) (v := ?_) rfl (by kernel_rfl) (by kernel_rfl) (by kernel_rfl) (fun _ _ _ h => h) (Or.inl ⟨by rfl, ?_⟩) (by assumption) ?_
        rotate_left
        · intro w' hSw
          (try dsimp only at hSw)
          go_simp
          try with_reducible rfl
        simp only [Act.put, List.setIfInBounds_toArray, List.set_cons_zero, List.set_cons_succ]
        refine wpAnyH_ready (rs := [7]) (by kernel_rfl) (by simp) ?_
        refine AllReadyH.cons rfl (fun K hK => ?_) AllReadyH.nil
        go_simp
        refine hK.out _ _ ?_ (fun hHeld => ?_)
        · (try dsimp only)
          (simp [go_sem, *])
        clear hK K
        try simp only [Act.put, List.setIfInBounds_toArray, List.set_cons_zero, List.set_cons_succ]
        refine wpAnyH_done (by kernel_rfl) ?_ _
        refine NoPanic.normal ?_
        go_wp2_with fail
        exact ⟨⟨k + 1, A', fl', xs ++ [⟨nu, lv, lo, hi'⟩], .slice (some ⟨g8, 0, none⟩) (k + 1) cap8, by go_num, by omega, hle.1, HRd8.out.set (by omega), HS', HL', HX', by rw [cellsT_snoc]; exact owns_set HW8.out (by omega), by rw [heap_setCell_same _ _ _ _ _ _ HQ8.out]; rfl, (Below.heap_setCell _ _ _ _ (by dsimp only; omega)).trans HZ8.out, Only.set_new (by omega) HO8.out, by simp [World.setCell]; omega⟩, by simp [intOf]; omega⟩
      · go_simp
        refine (HT.out wr.drew HRd.out).mono ?_
        rintro e w3 ⟨rfl, h3, ho3⟩
        have hQ3 := (ho3.block (w.heap.size + 1) (by show _ < wr.heap.size; omega) (by omega)).trans HQ.out
        have hR3 := (ho3.block w.heap.size (by show _ < wr.heap.size; omega) (by omega)).trans HR.out
        have k0 := (five_cells hQ3).1
        have l0 := (five_cells hR3).1
        have hB3 : w.heap.size + 2 ≤ w3.heap.size := Nat.le_trans hsz ho3.size
        have HW3 := hd (owns_blocks (w := wr.drew) HOw.out (fun g hg => ho3.block g (owns_lt HOw.out g hg) (by have := owns_base HOw.out g hg; omega)))
        have HO3 := hd (HO.out.trans (Only.trans (⟨rfl, rfl, rfl, Nat.le_refl _, fun _ _ _ => rfl⟩ : Only p wr wr.drew) ho3))
        have HR3 := hd h3
        have HQ3 := hd hQ3
        have HZ3 := hd hR3
        have hq3 : w.heap.size + 1 < w3.heap.size := (by omega)
        have hr3 : w.heap.size < w3.heap.size := (by omega)
        clear h3 ho3 hQ3 hR3
        refine hK.out _ _ ?_ (fun hHeld => ?_)
        · (try dsimp only)
          (simp [go_sem, *])
        clear hK K
        try simp only [Act.put, List.setIfInBounds_toArray, List.set_cons_zero, List.set_cons_succ]
        refine wpAnyH_ready (rs := [1, 4]) (by kernel_rfl) (by simp) ?_
        refine AllReadyH.cons rfl (fun K hK => ?_) (AllReadyH.cons rfl (fun K hK => ?_) AllReadyH.nil)
        · go_simp
          refine hK.out _ _ ?_ (fun hHeld => ?_)
          · (try dsimp only)
            (simp [go_sem, *])
          clear hK K
          try simp only [Act.put, List.setIfInBounds_toArray, List.set_cons_zero, List.set_cons_succ]
          refine wpAnyH_ready (rs := [4]) (by kernel_rfl) (by simp) ?_
          refine AllReadyH.cons rfl (fun K hK => ?_) AllReadyH.nil
          go_simp
          refine hK.out _ _ ?_ (fun hHeld => ?_)
          · (try dsimp only)
            (simp [go_sem, *])
          clear hK K
          try simp only [Act.put, List.setIfInBounds_toArray, List.set_cons_zero, List.set_cons_succ]
          refine wpAnyH_ready (rs := [5]) (by kernel_rfl) (by simp) ?_
          refine AllReadyH.cons rfl (fun K hK => ?_) AllReadyH.nil
          refine step_append_own rfl (.tmp 9) (.tmp 12) 38 rfl (w.heap.size + 2) 45 i0 _ 4 48 Tryz.underlying38 hi hz0 hz1 hz2 rfl (by decide) v k (cellsT xs) (by simp [Act.eval, Act.put]) (World.ownsRow.alloc HW3.out _) ⟨w3.heap.size, 0, none⟩ 1 1 [.int .i64 nu, .int .i64 lv, .string lo, .string hi'] (by simp [Act.eval, Act.put]) rfl (HF4.out w3 _ _ _ _ _) (fun x hx => by simp at hx; rcases hx with rfl | rfl | rfl | rfl <;> rfl) (by unfold maxLen; omega) (by omega) (by simp; omega) ?_
          intro v8 w8 hown8 hgrow8 hnil8
          obtain ⟨g8, cap8, rfl⟩ := owns_succ hown8
          have hb38 : Below (w.heap.size + 2) w3 w8 := ((Below.refl (w.heap.size + 2) w3).alloc hB3 _).grown hgrow8 (by simp; omega) (owns_base HW3.out)
          have hQ8 := (hb38.block (w.heap.size + 1) (by omega)).trans HQ3.out
          have hR8 := (hb38.block w.heap.size (by omega)).trans HZ3.out
          have q0 := (five_cells hQ8).1
          have z0 := (five_free hQ8).1
          have r0 := (five_cells hR8).1
          have hq8 : w.heap.size + 1 < w8.heap.size := heap_lt hQ8
          have HRd8 := hd (show Rd w8 p s A' fl' from (hb38.block p (by omega)).trans HR3.out)
          have HO8 := hd (Only.onto HO3.out hb38 (by omega))
          have HW8 := hd hown8
          have HQ8 := hd hQ8
          have HZ8 := hd hR8
          clear hown8 hgrow8 hnil8 hb38 hQ8 hR8
          refine hK.out _ _ ?_ (fun hHeld => ?_)
          · (try dsimp only)
            (simp [go_sem, *])
          clear hK K
          try simp only [Act.put, List.setIfInBounds_toArray, List.set_cons_zero, List.set_cons_succ]
          refine wpAnyH_take (i := 6) (v := ?_) rfl (by kernel_rfl) (by kernel_rfl) (by kernel_rfl) (fun _ _ _ h => h) (Or.inl ⟨by rfl, ?_⟩) (by assumption) ?_
          rotate_left
          · intro w' hSw
            (try dsimp only at hSw)
            go_simp
            try with_reducible rfl
          simp only [Act.put, List.setIfInBounds_toArray, List.set_cons_zero, List.set_cons_succ]
          refine wpAnyH_ready (rs := [7]) (by kernel_rfl) (by simp) ?_
          refine AllReadyH.cons rfl (fun K hK => ?_) AllReadyH.nil
          go_simp
          refine hK.out _ _ ?_ (fun hHeld => ?_)
          · (try dsimp only)
            (simp [go_sem, *])
          clear hK K
          try simp only [Act.put, List.setIfInBounds_toArray, List.set_cons_zero, List.set_cons_succ]
          refine wpAnyH_done (by kernel_rfl) ?_ _
          refine NoPanic.normal ?_
          go_wp2_with fail
          exact ⟨⟨k + 1, A', fl', xs ++ [⟨nu, lv, lo, hi'⟩], .slice (some ⟨g8, 0, none⟩) (k + 1) cap8, by go_num, by omega, hle.1, HRd8.out.set (by omega), HS', HL', HX', by rw [cellsT_snoc]; exact owns_set HW8.out (by omega), by rw [heap_setCell_same _ _ _ _ _ _ HQ8.out]; rfl, (Below.heap_setCell _ _ _ _ (by dsimp only; omega)).trans HZ8.out, Only.set_new (by omega) HO8.out, by simp [World.setCell]; omega⟩, by simp [intOf]; omega⟩
        · go_simp
          refine hK.out _ _ ?_ (fun hHeld => ?_)
          · (try dsimp only)
            (simp [go_sem, *])
          clear hK K
          try simp only [Act.put, List.setIfInBounds_toArray, List.set_cons_zero, List.set_cons_succ]
          refine wpAnyH_ready (rs := [1]) (by kernel_rfl) (by simp) ?_
          refine AllReadyH.cons rfl (fun K hK => ?_) AllReadyH.nil
          go_simp
          refine hK.out _ _ ?_ (fun hHeld => ?_)
          · (try dsimp only)
            (simp [go_sem, *])
          clear hK K
          try simp only [Act.put, List.setIfInBounds_toArray, List.set_cons_zero, List.set_cons_succ]
          refine wpAnyH_ready (rs := [5]) (by kernel_rfl) (by simp) ?_
          refine AllReadyH.cons rfl (fun K hK => ?_) AllReadyH.nil
          refine step_append_own rfl (.tmp 9) (.tmp 12) 38 rfl (w.heap.size + 2) 45 i0 _ 4 48 Tryz.underlying38 hi hz0 hz1 hz2 rfl (by decide) v k (cellsT xs) (by simp [Act.eval, Act.put]) (World.ownsRow.alloc HW3.out _) ⟨w3.heap.size, 0, none⟩ 1 1 [.int .i64 nu, .int .i64 lv, .string lo, .string hi'] (by simp [Act.eval, Act.put]) rfl (HF4.out w3 _ _ _ _ _) (fun x hx => by simp at hx; rcases hx with rfl | rfl | rfl | rfl <;> rfl) (by unfold maxLen; omega) (by omega) (by simp; omega) ?_
          intro v8 w8 hown8 hgrow8 hnil8
          obtain ⟨g8, cap8, rfl⟩ := owns_succ hown8
          have hb38 : Below (w.heap.size + 2) w3 w8 := ((Below.refl (w.heap.size + 2) w3).alloc hB3 _).grown hgrow8 (by simp; omega) (owns_base HW3.out)
          have hQ8 := (hb38.block (w.heap.size + 1) (by omega)).trans HQ3.out
          have hR8 := (hb38.block w.heap.size (by omega)).trans HZ3.out
          have q0 := (five_cells hQ8).1
          have z0 := (five_free hQ8).1
          have r0 := (five_cells hR8).1
          have hq8 : w.heap.size + 1 < w8.heap.size := heap_lt hQ8
          have HRd8 := hd (show Rd w8 p s A' fl' from (hb38.block p (by omega)).trans HR3.out)
          have HO8 := hd (Only.onto HO3.out hb38 (by omega))
          have HW8 := hd hown8
          have HQ8 := hd hQ8
          have HZ8 := hd hR8
          clear hown8 hgrow8 hnil8 hb38 hQ8 hR8
          refine hK.out _ _ ?_ (fun hHeld => ?_)
          · (try dsimp only)
            (simp [go_sem, *])
          clear hK K
          try simp only [Act.put, List.setIfInBounds_toArray, List.set_cons_zero, List.set_cons_succ]
          refine wpAnyH_take (i := 6) (v := ?_) rfl (by kernel_rfl) (by kernel_rfl) (by kernel_rfl) (fun _ _ _ h => h) (Or.inl ⟨by rfl, ?_⟩) (by assumption) ?_
          rotate_left
          · intro w' hSw
            (try dsimp only at hSw)
            go_simp
            try with_reducible rfl
          simp only [Act.put, List.setIfInBounds_toArray, List.set_cons_zero, List.set_cons_succ]
          refine wpAnyH_ready (rs := [7]) (by kernel_rfl) (by simp) ?_
          refine AllReadyH.cons rfl (fun K hK => ?_) AllReadyH.nil
          go_simp
          refine hK.out _ _ ?_ (fun hHeld => ?_)
          · (try dsimp only)
            (simp [go_sem, *])
          clear hK K
          try simp only [Act.put, List.setIfInBounds_toArray, List.set_cons_zero, List.set_cons_succ]
          refine wpAnyH_done (by kernel_rfl) ?_ _
          refine NoPanic.normal ?_
          go_wp2_with fail
          exact ⟨⟨k + 1, A', fl', xs ++ [⟨nu, lv, lo, hi'⟩], .slice (some ⟨g8, 0, none⟩) (k + 1) cap8, by go_num, by omega, hle.1, HRd8.out.set (by omega), HS', HL', HX', by rw [cellsT_snoc]; exact owns_set HW8.out (by omega), by rw [heap_setCell_same _ _ _ _ _ _ HQ8.out]; rfl, (Below.heap_setCell _ _ _ _ (by dsimp only; omega)).trans HZ8.out, Only.set_new (by omega) HO8.out, by simp [World.setCell]; omega⟩, by simp [intOf]; omega⟩
    · obtain rfl : k = n := by omega
      have HC := hd (fun (w : World) (h : Rd w p s A fl) => count_any p A 1000 s fl w h hs hA (by omega))
      have HS0 := hd (S2_zero HS.out)
      have hle1 := rdC_le (s := s) (M := 1000) (A := A) fl hA
      generalize rdC s 1000 A fl = r1 at *
      obtain ⟨m, A1, f1⟩ := r1
      dsimp only at *
      clear HS
      go_wp2_with fail
      refine (HC.out _ hrd).mono ?_
      rintro e w1 ⟨rfl, h1, ho1⟩
      have hR1 := (ho1.block w.heap.size (by omega) (by omega)).trans hR
      have hQ1 := (ho1.block (w.heap.size + 1) (by omega) (by omega)).trans hQ
      have hO1 := hO.trans ho1
      have hs1 : w.heap.size + 2 ≤ w1.heap.size := by have := ho1.size; omega
      have hv1 := owns_blocks hown (fun g hg => ho1.block g (owns_lt hown g hg) (by have := owns_base hown g hg; omega))
      clear hR hQ hO hown hrd ho1 HC hsz hA hlt
      go_wp2_with fail
      go_loopw [18] (fun y wr => ∃ (k' A : Nat) (fl : Bool) (ks : List Int) (u : Value), y = .int .i64 k' ∧ k' ≤ m ∧ A ≤ s.size ∧ Rd wr p s A fl ∧ Hid (S2 s m k' xs ks A fl) ∧ Hid (ks.length = k') ∧ wr.ownsRow (w.heap.size + 2) 45 4 v k (cellsT xs) ∧ wr.ownsRow (w.heap.size + 2) 3 1 u k' (ic ks) ∧ wr.heap[w.heap.size + 1]? = some (.cells #[v, u, .int .i64 0, .int .i64 0, .int .i64 0] 68 (0, 0)) ∧ wr.heap[w.heap.size]? = some (.cells #[.slice none 0 0, .slice none 0 0, .int .i64 0, .int .i64 0, .int .i64 0] 68 (0, 0)) ∧ Only p w wr ∧ w.heap.size + 2 ≤ wr.heap.size) (fun y _ => m - (intOf y).toNat)
      case atStart => exact ⟨0, A1, f1, [], .slice none 0 0, rfl, by omega, hle1.1, h1, HS0, rfl, hv1, ownsNil _ _ _ _, hQ1, hR1, hO1, hs1⟩
      case round =>
        clear h1 hR1 hQ1 hO1 hs1 HS0 hv1 hk
        obtain ⟨k', A, fl, ks, u, rfl, hk, hA, hrd, HS, HKL, hown, hownu, hQ, hR, hO, hsz⟩ := hrel
        by_cases hlt : k' < m
        · have hlt' : (k' : Int) < m := by omega
          have HS' := hd (S2_succ HS.out hlt)
          have HT := hd (fun (w : World) (h : Rd w p s A fl) => number_any p A s fl w h hs)
          have hle := rdN_le (s := s) fl hA
          generalize rdN s A fl = r at *
          obtain ⟨x, A', fl'⟩ := r
          dsimp only at *
          have HL' : Hid ((ks ++ [(x : Int)]).length = k' + 1) := by show _ = _; rw [List.length_append, HKL.out]; rfl
          obtain ⟨x0, x1, x2, x3, x4⟩ := five_cells hQ
          obtain ⟨y0, -, -, -, -⟩ := five_cells hR
          have HRd := hd hrd
          have HOw := hd hownu
          have HOv := hd hown
          have HO := hd hO
          have HQ := hd hQ
          have HR := hd hR
          clear hrd hown hownu hO hQ hR HS HKL
          go_wp2_with fail
          refine wp_region_noPanic ?_
          refine wp_region_held_drew (S := (fun w' => w'.cell? ⟨w.heap.size, 0, none⟩ = some (.slice none 0 0))) (by kernel_rfl) ?_ (fun hHeld => ?_)
          · (try dsimp only)
            (simp [go_sem, *])
          refine wpAnyH_take (i := 0) (v := ?_) rfl (by kernel_rfl) (by kernel_rfl) (by kernel_rfl) (fun _ _ _ h => h) (Or.inl ⟨by rfl, ?_⟩) (by assumption) ?_
          rotate_left
          · intro w' hSw
            (try dsimp only at hSw)
            go_simp
            try with_reducible rfl
          simp only [Act.put, List.setIfInBounds_toArray, List.set_cons_zero, List.set_cons_succ]
          refine wpAnyH_take (i := 2) (v := ?_) rfl (by kernel_rfl) (by kernel_rfl) (by kernel_rfl) (fun _ _ _ h => h) (Or.inl ⟨by rfl, ?_⟩) (by assumption) ?_
          rotate_left
          · intro w' hSw
            (try dsimp only at hSw)
            go_simp
            try with_reducible rfl
          simp only [Act.put, List.setIfInBounds_toArray, List.set_cons_zero, List.set_cons_succ]
          refine wpAnyH_ready (rs := [1, 3]) (by kernel_rfl) (by simp) ?_
          refine AllReadyH.cons rfl (fun K hK => ?_) (AllReadyH.cons rfl (fun K hK => ?_) AllReadyH.nil)
          · go_simp
            refine hK.out _ _ ?_ (fun hHeld => ?_)
            · (try dsimp only)
              (simp [go_sem, *])
            clear hK K
            try simp only [Act.put, List.setIfInBounds_toArray, List.set_cons_zero, List.set_cons_succ]
            refine wpAnyH_ready (rs := [3]) (by kernel_rfl) (by simp) ?_
            refine AllReadyH.cons rfl (fun K hK => ?_) AllReadyH.nil
            go_simp
            refine (HT.out wr.drew HRd.out).mono ?_
            rintro e w3 ⟨rfl, h3, ho3⟩
            have hQ3 := (ho3.block (w.heap.size + 1) (by show _ < wr.heap.size; omega) (by omega)).trans HQ.out
            have hR3 := (ho3.block w.heap.size (by show _ < wr.heap.size; omega) (by omega)).trans HR.out
            have k0 := (five_cells hQ3).2.1
            have l0 := (five_cells hR3).1
            have hB3 : w.heap.size + 2 ≤ w3.heap.size := Nat.le_trans hsz ho3.size
            have HW3 := hd (owns_blocks (w := wr.drew) HOw.out (fun g hg => ho3.block g (owns_lt HOw.out g hg) (by have := owns_base HOw.out g hg; omega)))
            have HV3 := hd (owns_blocks (w := wr.drew) HOv.out (fun g hg => ho3.block g (owns_lt HOv.out g hg) (by have := owns_base HOv.out g hg; omega)))
            have HO3 := hd (HO.out.trans (Only.trans (⟨rfl, rfl, rfl, Nat.le_refl _, fun _ _ _ => rfl⟩ : Only p wr wr.drew) ho3))
            have HR3 := hd h3
            have HQ3 := hd hQ3
            have HZ3 := hd hR3
            have hq3 : w.heap.size + 1 < w3.heap.size := (by omega)
            have hr3 : w.heap.size < w3.heap.size := (by omega)
            clear h3 ho3 hQ3 hR3
            refine hK.out _ _ ?_ (fun hHeld => ?_)
            · (try dsimp only)
              (simp [go_sem, *])
            clear hK K
            try simp only [Act.put, List.setIfInBounds_toArray, List.set_cons_zero, List.set_cons_succ]
            refine wpAnyH_ready (rs := [4]) (by kernel_rfl) (by simp) ?_
            refine AllReadyH.cons rfl (fun K hK => ?_) AllReadyH.nil
            go_simp
            refine hK.out _ _ ?_ (fun hHeld => ?_)
            · (try dsimp only)
              (simp [go_sem, *])
            clear hK K
            try simp only [Act.put, List.setIfInBounds_toArray, List.set_cons_zero, List.set_cons_succ]
            refine wpAnyH_ready (rs := [5]) (by kernel_rfl) (by simp) ?_
            refine AllReadyH.cons rfl (fun K hK => ?_) AllReadyH.nil
            refine step_append_own rfl (.tmp 21) (.tmp 24) 66 rfl (w.heap.size + 2) 3 j0 _ 1 8 Tryz.underlying66 ji jz0 jz1 jz2 rfl (by decide) u k' (ic ks) (by simp [Act.eval, Act.put]) (World.ownsRow.alloc HW3.out _) ⟨w3.heap.size, 0, none⟩ 1 1 [.int .i64 x] (by simp [Act.eval, Act.put]) rfl (HF1.out w3 _ _) (fun x hx => by simp at hx; subst hx; rfl) (by unfold maxLen; omega) (by omega) (by simp; omega) ?_
            intro v8 w8 hown8 hgrow8 hnil8
            obtain ⟨g8, cap8, rfl⟩ := owns_succ hown8
            have hb38 : Below (w.heap.size + 2) w3 w8 := ((Below.refl (w.heap.size + 2) w3).alloc hB3 _).grown hgrow8 (by simp; omega) (owns_base HW3.out)
            have hQ8 := (hb38.block (w.heap.size + 1) (by omega)).trans HQ3.out
            have hR8 := (hb38.block w.heap.size (by omega)).trans HZ3.out
            have q0 := (five_cells hQ8).2.1
            have z0 := (five_free hQ8).2.1
            have r0 := (five_cells hR8).1
            have hq8 : w.heap.size + 1 < w8.heap.size := heap_lt hQ8
            have HRd8 := hd (show Rd w8 p s A' fl' from (hb38.block p (by omega)).trans HR3.out)
            have HO8 := hd (Only.onto HO3.out hb38 (by omega))
            have HW8 := hd hown8
            have HV8 := hd (owns_blocks (World.ownsRow.alloc HV3.out _) (fun g hg => hgrow8.block g (owns_lt (World.ownsRow.alloc HV3.out _) g hg) (fun e => owns_ne HV3.out HW3.out (by decide) g hg e.symm)))
            have HQ8 := hd hQ8
            have HZ8 := hd hR8
            clear hown8 hgrow8 hnil8 hb38 hQ8 hR8
            refine hK.out _ _ ?_ (fun hHeld => ?_)
            · (try dsimp only)
              (simp [go_sem, *])
            clear hK K
            try simp only [Act.put, List.setIfInBounds_toArray, List.set_cons_zero, List.set_cons_succ]
            refine wpAnyH_take (i := 6) (v := ?_) rfl (by kernel_rfl) (by kernel_rfl) (by kernel_rfl) (fun _ _ _ h => h) (Or.inl ⟨by rfl, ?_⟩) (by assumption) ?_
            rotate_left
            · intro w' hSw
              (try dsimp only at hSw)
              go_simp
              try with_reducible rfl
            simp only [Act.put, List.setIfInBounds_toArray, List.set_cons_zero, List.set_cons_succ]
            refine wpAnyH_ready (rs := [7]) (by kernel_rfl) (by simp) ?_
            refine AllReadyH.cons rfl (fun K hK => ?_) AllReadyH.nil
            go_simp
            refine hK.out _ _ ?_ (fun hHeld => ?_)
            · (try dsimp only)
              (simp [go_sem, *])
            clear hK K
            try simp only [Act.put, List.setIfInBounds_toArray, List.set_cons_zero, List.set_cons_succ]
            refine wpAnyH_done (by kernel_rfl) ?_ _
            refine NoPanic.normal ?_
            go_wp2_with fail
            exact ⟨⟨k' + 1, A', fl', ks ++ [(x : Int)], .slice (some ⟨g8, 0, none⟩) (k' + 1) cap8, by go_num, by omega, hle.1, HRd8.out.set (by omega), HS', HL', owns_set HV8.out (by omega), by rw [ic_snoc]; exact owns_set HW8.out (by omega), by rw [heap_setCell_same _ _ _ _ _ _ HQ8.out]; rfl, (Below.heap_setCell _ _ _ _ (by dsimp only; omega)).trans HZ8.out, Only.set_new (by omega) HO8.out, by simp [World.setCell]; omega⟩, by simp [intOf]; omega⟩
          · go_simp
            refine (HT.out wr.drew HRd.out).mono ?_
            rintro e w3 ⟨rfl, h3, ho3⟩
            have hQ3 := (ho3.block (w.heap.size + 1) (by show _ < wr.heap.size; omega) (by omega)).trans HQ.out
            have hR3 := (ho3.block w.heap.size (by show _ < wr.heap.size; omega) (by omega)).trans HR.out
            have k0 := (five_cells hQ3).2.1
            have l0 := (five_cells hR3).1
            have hB3 : w.heap.size + 2 ≤ w3.heap.size := Nat.le_trans hsz ho3.size
            have HW3 := hd (owns_blocks (w := wr.drew) HOw.out (fun g hg => ho3.block g (owns_lt HOw.out g hg) (by have := owns_base HOw.out g hg; omega)))
            have HV3 := hd (owns_blocks (w := wr.drew) HOv.out (fun g hg => ho3.block g (owns_lt HOv.out g hg) (by have := owns_base HOv.out g hg; omega)))
            have HO3 := hd (HO.out.trans (Only.trans (⟨rfl, rfl, rfl, Nat.le_refl _, fun _ _ _ => rfl⟩ : Only p wr wr.drew) ho3))
            have HR3 := hd h3
            have HQ3 := hd hQ3
            have HZ3 := hd hR3
            have hq3 : w.heap.size + 1 < w3.heap.size := (by omega)
            have hr3 : w.heap.size < w3.heap.size := (by omega)
            clear h3 ho3 hQ3 hR3
            refine hK.out _ _ ?_ (fun hHeld => ?_)
            · (try dsimp only)
              (simp [go_sem, *])
            clear hK K
            try simp only [Act.put, List.setIfInBounds_toArray, List.set_cons_zero, List.set_cons_succ]
            refine wpAnyH_ready (rs := [1, 4]) (by kernel_rfl) (by simp) ?_
            refine AllReadyH.cons rfl (fun K hK => ?_) (AllReadyH.cons rfl (fun K hK => ?_) AllReadyH.nil)
            · go_simp
              refine hK.out _ _ ?_ (fun hHeld => ?_)
              · (try dsimp only)
                (simp [go_sem, *])
              clear hK K
              try simp only [Act.put, List.setIfInBounds_toArray, List.set_cons_zero, List.set_cons_succ]
              refine wpAnyH_ready (rs := [4]) (by kernel_rfl) (by simp) ?_
              refine AllReadyH.cons rfl (fun K hK => ?_) AllReadyH.nil
              go_simp
              refine hK.out _ _ ?_ (fun hHeld => ?_)
              · (try dsimp only)
                (simp [go_sem, *])
              clear hK K
              try simp only [Act.put, List.setIfInBounds_toArray, List.set_cons_zero, List.set_cons_succ]
              refine wpAnyH_ready (rs := [5]) (by kernel_rfl) (by simp) ?_
              refine AllReadyH.cons rfl (fun K hK => ?_) AllReadyH.nil
              refine step_append_own rfl (.tmp 21) (.tmp 24) 66 rfl (w.heap.size + 2) 3 j0 _ 1 8 Tryz.underlying66 ji jz0 jz1 jz2 rfl (by decide) u k' (ic ks) (by simp [Act.eval, Act.put]) (World.ownsRow.alloc HW3.out _) ⟨w3.heap.size, 0, none⟩ 1 1 [.int .i64 x] (by simp [Act.eval, Act.put]) rfl (HF1.out w3 _ _) (fun x hx => by simp at hx; subst hx; rfl) (by unfold maxLen; omega) (by omega) (by simp; omega) ?_
              intro v8 w8 hown8 hgrow8 hnil8
              obtain ⟨g8, cap8, rfl⟩ := owns_succ hown8
              have hb38 : Below (w.heap.size + 2) w3 w8 := ((Below.refl (w.heap.size + 2) w3).alloc hB3 _).grown hgrow8 (by simp; omega) (owns_base HW3.out)
              have hQ8 := (hb38.block (w.heap.size + 1) (by omega)).trans HQ3.out
              have hR8 := (hb38.block w.heap.size (by omega)).trans HZ3.out
              have q0 := (five_cells hQ8).2.1
              have z0 := (five_free hQ8).2.1
              have r0 := (five_cells hR8).1
              have hq8 : w.heap.size + 1 < w8.heap.size := heap_lt hQ8
              have HRd8 := hd (show Rd w8 p s A' fl' from (hb38.block p (by omega)).trans HR3.out)
              have HO8 := hd (Only.onto HO3.out hb38 (by omega))
              have HW8 := hd hown8
              have HV8 := hd (owns_blocks (World.ownsRow.alloc HV3.out _) (fun g hg => hgrow8.block g (owns_lt (World.ownsRow.alloc HV3.out _) g hg) (fun e => owns_ne HV3.out HW3.out (by decide) g hg e.symm)))
              have HQ8 := hd hQ8
              have HZ8 := hd hR8
              clear hown8 hgrow8 hnil8 hb38 hQ8 hR8
              refine hK.out _ _ ?_ (fun hHeld => ?_)
              · (try dsimp only)
                (simp [go_sem, *])
              clear hK K
              try simp only [Act.put, List.setIfInBounds_toArray, List.set_cons_zero, List.set_cons_succ]
              refine wpAnyH_take (i := 6) (v := ?_) rfl (by kernel_rfl) (by kernel_rfl) (by kernel_rfl) (fun _ _ _ h => h) (Or.inl ⟨by rfl, ?_⟩) (by assumption) ?_
              rotate_left
              · intro w' hSw
                (try dsimp only at hSw)
                go_simp
                try with_reducible rfl
              simp only [Act.put, List.setIfInBounds_toArray, List.set_cons_zero, List.set_cons_succ]
              refine wpAnyH_ready (rs := [7]) (by kernel_rfl) (by simp) ?_
              refine AllReadyH.cons rfl (fun K hK => ?_) AllReadyH.nil
              go_simp
              refine hK.out _ _ ?_ (fun hHeld => ?_)
              · (try dsimp only)
                (simp [go_sem, *])
              clear hK K
              try simp only [Act.put, List.setIfInBounds_toArray, List.set_cons_zero, List.set_cons_succ]
              refine wpAnyH_done (by kernel_rfl) ?_ _
              refine NoPanic.normal ?_
              go_wp2_with fail
              exact ⟨⟨k' + 1, A', fl', ks ++ [(x : Int)], .slice (some ⟨g8, 0, none⟩) (k' + 1) cap8, by go_num, by omega, hle.1, HRd8.out.set (by omega), HS', HL', owns_set HV8.out (by omega), by rw [ic_snoc]; exact owns_set HW8.out (by omega), by rw [heap_setCell_same _ _ _ _ _ _ HQ8.out]; rfl, (Below.heap_setCell _ _ _ _ (by dsimp only; omega)).trans HZ8.out, Only.set_new (by omega) HO8.out, by simp [World.setCell]; omega⟩, by simp [intOf]; omega⟩
            · go_simp
              refine hK.out _ _ ?_ (fun hHeld => ?_)
              · (try dsimp only)
                (simp [go_sem, *])
              clear hK K
              try simp only [Act.put, List.setIfInBounds_toArray, List.set_cons_zero, List.set_cons_succ]
              refine wpAnyH_ready (rs := [1]) (by kernel_rfl) (by simp) ?_
              refine AllReadyH.cons rfl (fun K hK => ?_) AllReadyH.nil
              go_simp
              refine hK.out _ _ ?_ (fun hHeld => ?_)
              · (try dsimp only)
                (simp [go_sem, *])
              clear hK K
              try simp only [Act.put, List.setIfInBounds_toArray, List.set_cons_zero, List.set_cons_succ]
              refine wpAnyH_ready (rs := [5]) (by kernel_rfl) (by simp) ?_
              refine AllReadyH.cons rfl (fun K hK => ?_) AllReadyH.nil
              refine step_append_own rfl (.tmp 21) (.tmp 24) 66 rfl (w.heap.size + 2) 3 j0 _ 1 8 Tryz.underlying66 ji jz0 jz1 jz2 rfl (by decide) u k' (ic ks) (by simp [Act.eval, Act.put]) (World.ownsRow.alloc HW3.out _) ⟨w3.heap.size, 0, none⟩ 1 1 [.int .i64 x] (by simp [Act.eval, Act.put]) rfl (HF1.out w3 _ _) (fun x hx => by simp at hx; subst hx; rfl) (by unfold maxLen; omega) (by omega) (by simp; omega) ?_
              intro v8 w8 hown8 hgrow8 hnil8
              obtain ⟨g8, cap8, rfl⟩ := owns_succ hown8
              have hb38 : Below (w.heap.size + 2) w3 w8 := ((Below.refl (w.heap.size + 2) w3).alloc hB3 _).grown hgrow8 (by simp; omega) (owns_base HW3.out)
              have hQ8 := (hb38.block (w.heap.size + 1) (by omega)).trans HQ3.out
              have hR8 := (hb38.block w.heap.size (by omega)).trans HZ3.out
              have q0 := (five_cells hQ8).2.1
              have z0 := (five_free hQ8).2.1
              have r0 := (five_cells hR8).1
              have hq8 : w.heap.size + 1 < w8.heap.size := heap_lt hQ8
              have HRd8 := hd (show Rd w8 p s A' fl' from (hb38.block p (by omega)).trans HR3.out)
              have HO8 := hd (Only.onto HO3.out hb38 (by omega))
              have HW8 := hd hown8
              have HV8 := hd (owns_blocks (World.ownsRow.alloc HV3.out _) (fun g hg => hgrow8.block g (owns_lt (World.ownsRow.alloc HV3.out _) g hg) (fun e => owns_ne HV3.out HW3.out (by decide) g hg e.symm)))
              have HQ8 := hd hQ8
              have HZ8 := hd hR8
              clear hown8 hgrow8 hnil8 hb38 hQ8 hR8
              refine hK.out _ _ ?_ (fun hHeld => ?_)
              · (try dsimp only)
                (simp [go_sem, *])
              clear hK K
              try simp only [Act.put, List.setIfInBounds_toArray, List.set_cons_zero, List.set_cons_succ]
              refine wpAnyH_take (i := 6) (v := ?_) rfl (by kernel_rfl) (by kernel_rfl) (by kernel_rfl) (fun _ _ _ h => h) (Or.inl ⟨by rfl, ?_⟩) (by assumption) ?_
              rotate_left
              · intro w' hSw
                (try dsimp only at hSw)
                go_simp
                try with_reducible rfl
              simp only [Act.put, List.setIfInBounds_toArray, List.set_cons_zero, List.set_cons_succ]
              refine wpAnyH_ready (rs := [7]) (by kernel_rfl) (by simp) ?_
              refine AllReadyH.cons rfl (fun K hK => ?_) AllReadyH.nil
              go_simp
              refine hK.out _ _ ?_ (fun hHeld => ?_)
              · (try dsimp only)
                (simp [go_sem, *])
              clear hK K
              try simp only [Act.put, List.setIfInBounds_toArray, List.set_cons_zero, List.set_cons_succ]
              refine wpAnyH_done (by kernel_rfl) ?_ _
              refine NoPanic.normal ?_
              go_wp2_with fail
              exact ⟨⟨k' + 1, A', fl', ks ++ [(x : Int)], .slice (some ⟨g8, 0, none⟩) (k' + 1) cap8, by go_num, by omega, hle.1, HRd8.out.set (by omega), HS', HL', owns_set HV8.out (by omega), by rw [ic_snoc]; exact owns_set HW8.out (by omega), by rw [heap_setCell_same _ _ _ _ _ _ HQ8.out]; rfl, (Below.heap_setCell _ _ _ _ (by dsimp only; omega)).trans HZ8.out, Only.set_new (by omega) HO8.out, by simp [World.setCell]; omega⟩, by simp [intOf]; omega⟩
        · obtain rfl : k' = m := by omega
          have HS3 := hd (S3_of HS.out)
          obtain ⟨hn1, a, ca, rfl, hresT⟩ := resT_of_owns hown
          obtain ⟨hn2, d, cd, rfl, hresI⟩ := resI_of_owns hownu
          have HN1 := hd (fun (w : World) (h : Rd w p s A fl) => number_any p A s fl w h hs)
          have l1 := (rdN_le (s := s) fl hA).1
          generalize e1 : rdN s A fl = r1 at *
          have HN2 := hd (fun (w : World) (h : Rd w p s r1.2.1 r1.2.2) => number_any p r1.2.1 s r1.2.2 w h hs)
          have l2 := (rdN_le (s := s) r1.2.2 l1).1
          generalize e2 : rdN s r1.2.1 r1.2.2 = r2 at *
          have HN3 := hd (fun (w : World) (h : Rd w p s r2.2.1 r2.2.2) => number_any p r2.2.1 s r2.2.2 w h hs)
          generalize e3 : rdN s r2.2.1 r2.2.2 = r3 at *
          have HE := hd (S3_end HS3.out e1 e2 e3)
          have HFX : Hid (FitsT xs) := fun t ht => by have := HX.out t ht; unfold maxLen; omega
          have HL1 : Hid (xs.length ≤ 1000) := by show _ ≤ _; omega
          have HL2 : Hid (ks.length ≤ 1000) := by show _ ≤ _; omega
          have hT : Hid (∀ w', (∀ g, w.heap.size + 2 ≤ g → g < wr.heap.size → w'.heap[g]? = wr.heap[g]?) → ResT w' w.heap.size a xs ∧ ResI w' w.heap.size d ks) := fun w' hw => by
            refine ⟨?_, ?_⟩
            · rcases hresT.kept hw with h | ⟨g, rfl, hg, hr⟩
              · exact .inl h
              · exact .inr ⟨g, rfl, by omega, hr⟩
            · rcases hresI.kept hw with h | ⟨g, rfl, hg, hr⟩
              · exact .inl h
              · exact .inr ⟨g, rfl, by omega, hr⟩
          clear hresT hresI hown hownu HS HX HL HKL e1 e2 e3 HS3 hn1 hn2 hlt hk hle0 hle1
          go_wp2_with fail
          refine (HN1.out _ hrd).mono ?_
          rintro e w3 ⟨rfl, h3, ho3⟩
          have hs3 := ho3.size
          have hQ3 := (ho3.block (w.heap.size + 1) (by omega) (by omega)).trans hQ
          have hR3 := (ho3.block w.heap.size (by omega) (by omega)).trans hR
          have hO3 := hO.trans ho3
          have HG3 : Hid (∀ g, w.heap.size + 2 ≤ g → g < wr.heap.size → w3.heap[g]? = wr.heap[g]?) := fun g h1 h2 => ho3.block g h2 (by omega)
          clear hrd ho3 hQ hR hO
          obtain ⟨x0, x1, x2, x3, x4⟩ := five_cells hQ3
          obtain ⟨z0, z1, z2, z3, z4⟩ := five_free hQ3
          have hQ4 : (w3.setCell ⟨w.heap.size + 1, 2, none⟩ (.int .i64 r1.1)).heap[w.heap.size + 1]? = some (.cells #[.slice a xs.length ca, .slice d ks.length cd, .int .i64 r1.1, .int .i64 0, .int .i64 0] 68 (0, 0)) := by rw [heap_setCell_same _ _ _ _ _ _ hQ3]; rfl
          have hR4 := (Below.heap_setCell w3 ⟨w.heap.size + 1, 2, none⟩ (.int .i64 r1.1) w.heap.size (by dsimp only; omega)).trans hR3
          have h4 := h3.set (q := w.heap.size + 1) (o := 2) (v := .int .i64 r1.1) (by omega)
          have hO4 := hO3.set_new (q := w.heap.size + 1) (o := 2) (v := .int .i64 r1.1) (by omega)
          have HG4 : Hid (∀ g, w.heap.size + 2 ≤ g → g < wr.heap.size → (w3.setCell ⟨w.heap.size + 1, 2, none⟩ (.int .i64 r1.1)).heap[g]? = wr.heap[g]?) := fun g h1 h2 => (Below.heap_setCell _ _ _ _ (by dsimp only; omega)).trans (HG3.out g h1 h2)
          have hs4 : (w3.setCell ⟨w.heap.size + 1, 2, none⟩ (.int .i64 r1.1)).heap.size = w3.heap.size := by simp [World.setCell]
          clear hQ3 hR3 h3 hO3 HG3
          go_wp2_with fail
          generalize w3.setCell ⟨w.heap.size + 1, 2, none⟩ (.int .i64 r1.1) = W4 at *
          clear x0 x1 x2 x3 x4 z0 z1 z2 z3 z4
          refine (HN2.out _ h4).mono ?_
          rintro e w5 ⟨rfl, h5, ho5⟩
          have hs5 := ho5.size
          have hQ5 := (ho5.block (w.heap.size + 1) (by omega) (by omega)).trans hQ4
          have hR5 := (ho5.block w.heap.size (by omega) (by omega)).trans hR4
          have hO5 := hO4.trans ho5
          have HG5 : Hid (∀ g, w.heap.size + 2 ≤ g → g < wr.heap.size → w5.heap[g]? = wr.heap[g]?) := fun g h1 h2 => (ho5.block g (by omega) (by omega)).trans (HG4.out g h1 h2)
          clear h4 ho5 hQ4 hR4 hO4 HG4
          obtain ⟨x0, x1, x2, x3, x4⟩ := five_cells hQ5
          obtain ⟨z0, z1, z2, z3, z4⟩ := five_free hQ5
          have hQ6 : (w5.setCell ⟨w.heap.size + 1, 3, none⟩ (.int .i64 r2.1)).heap[w.heap.size + 1]? = some (.cells #[.slice a xs.length ca, .slice d ks.length cd, .int .i64 r1.1, .int .i64 r2.1, .int .i64 0] 68 (0, 0)) := by rw [heap_setCell_same _ _ _ _ _ _ hQ5]; rfl
          have hR6 := (Below.heap_setCell w5 ⟨w.heap.size + 1, 3, none⟩ (.int .i64 r2.1) w.heap.size (by dsimp only; omega)).trans hR5
          have h6 := h5.set (q := w.heap.size + 1) (o := 3) (v := .int .i64 r2.1) (by omega)
          have hO6 := hO5.set_new (q := w.heap.size + 1) (o := 3) (v := .int .i64 r2.1) (by omega)
          have HG6 : Hid (∀ g, w.heap.size + 2 ≤ g → g < wr.heap.size → (w5.setCell ⟨w.heap.size + 1, 3, none⟩ (.int .i64 r2.1)).heap[g]? = wr.heap[g]?) := fun g h1 h2 => (Below.heap_setCell _ _ _ _ (by dsimp only; omega)).trans (HG5.out g h1 h2)
          have hs6 : (w5.setCell ⟨w.heap.size + 1, 3, none⟩ (.int .i64 r2.1)).heap.size = w5.heap.size := by simp [World.setCell]
          clear hQ5 hR5 h5 hO5 HG5
          go_wp2_with fail
          generalize w5.setCell ⟨w.heap.size + 1, 3, none⟩ (.int .i64 r2.1) = W6 at *
          clear x0 x1 x2 x3 x4 z0 z1 z2 z3 z4
          refine (HN3.out _ h6).mono ?_
          rintro e w7 ⟨rfl, h7, ho7⟩
          have hs7 := ho7.size
          have hQ7 := (ho7.block (w.heap.size + 1) (by omega) (by omega)).trans hQ6
          have hR7 := (ho7.block w.heap.size (by omega) (by omega)).trans hR6
          have hO7 := hO6.trans ho7
          have HG7 : Hid (∀ g, w.heap.size + 2 ≤ g → g < wr.heap.size → w7.heap[g]? = wr.heap[g]?) := fun g h1 h2 => (ho7.block g (by omega) (by omega)).trans (HG6.out g h1 h2)
          clear h6 ho7 hQ6 hR6 hO6 HG6
          obtain ⟨x0, x1, x2, x3, x4⟩ := five_cells hQ7
          obtain ⟨z0, z1, z2, z3, z4⟩ := five_free hQ7
          obtain ⟨y0, y1, y2, y3, y4⟩ := five_cells hR7
          obtain ⟨t0, t1, t2, t3, t4⟩ := five_free hR7
          have hlR := heap_lt hR7
          have hlQ := heap_lt hQ7
          have HH := hd (And.intro h7 hO7)
          clear h7 hO7 hQ7 hR7
          have KEY : Hid (∀ W, Rd W p s r3.2.1 r3.2.2 → (∀ g, w.heap.size + 2 ≤ g → g < wr.heap.size → W.heap[g]? = wr.heap[g]?) → Only p w W → ∃ (a' : Option Addr) (ca' : Nat) (d' : Option Addr) (cd' : Nat) (e : Ed) (A : Nat) (fl : Bool), Ending.returned (edV a ca d cd ⟨xs, ks, r1.1, r2.1, r3.1⟩) = .returned (edV a' ca' d' cd' e) ∧ Rd W p s A fl ∧ ResT W w.heap.size a' e.ad ∧ ResI W w.heap.size d' e.dl ∧ FitsT e.ad ∧ e.ad.length ≤ 1000 ∧ e.dl.length ≤ 1000 ∧ Hid (fl = true → decEd s = none) ∧ Hid (fl = false → pE s = some (e, A)) ∧ Only p w W) := fun W k1 k2 k3 =>
            ⟨a, ca, d, cd, ⟨xs, ks, r1.1, r2.1, r3.1⟩, r3.2.1, r3.2.2, rfl, k1, (hT.out W k2).1, (hT.out W k2).2, HFX.out, HL1.out, HL2.out, HE.out.1, HE.out.2, k3⟩
          clear hT HFX HL1 HL2 HE
          go_wp2_with fail
          refine bodyPost_ret (v := edV a ca d cd ⟨xs, ks, r1.1, r2.1, r3.1⟩) (by simp [results, Tryz.results88, go_sem, x0, x1, x2, x3, x4, y0, y1, y2, y3, y4]) rfl (KEY.out _ ?_ ?_ ?_)
          · repeat refine Rd.set (by omega) ?_
            exact HH.out.1
          · intro g h1 h2
            repeat refine (Below.heap_setCell _ _ _ _ (by dsimp only; omega)).trans ?_
            exact HG7.out g h1 h2
          · repeat refine Only.set_new (by omega) ?_
            exact HH.out.2
end Go.Proofs.YtphikgobdfknkaaGreatDoor
