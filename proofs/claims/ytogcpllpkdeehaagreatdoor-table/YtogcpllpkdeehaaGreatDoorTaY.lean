import Derived.Test.YtogcpllpkdeehaaGreatDoorTaS
import Derived.Laws.OwnMore
namespace Go.Proofs.YtogcpllpkdeehaaGreatDoor
open Go.RowKit Go.Maps
set_option linter.unusedVariables false
set_option linter.unusedSimpArgs false

/-- The entry that a spoiler leaves. -/
def seB (A x : Nat) (e : En) : En :=
  match A with
  | 0 => ⟨⟨#[]⟩, e.sq, e.kd, e.vl⟩
  | 1 => ⟨rep (1000 + x) ⟨#[107]⟩, e.sq, e.kd, e.vl⟩
  | 2 => ⟨e.ky, (x : Int) * 72057594037927935, e.kd, e.vl⟩
  | 3 => ⟨e.ky, 72057594037927936, e.kd, e.vl⟩
  | 4 => ⟨e.ky, e.sq, 2, e.vl⟩
  | 5 => ⟨⟨#[107]⟩, 1, 1, rep (4000 + x) ⟨#[118]⟩⟩
  | 6 => ⟨e.ky, e.sq, 0, rep x ⟨#[118]⟩⟩
  | _ => ⟨e.ky, -1, e.kd, e.vl⟩
def MidE (xs : List En) : Prop := ∀ e ∈ xs, e.ky.size ≤ 2000 ∧ e.vl.size ≤ 5000
theorem seB_mid (A x : Nat) (e : En) (hx : x < 2) (he : e.ky.size ≤ 70 ∧ e.vl.size ≤ 1000) : (seB A x e).ky.size ≤ 2000 ∧ (seB A x e).vl.size ≤ 5000 := by
  have h0 : (⟨#[]⟩ : ByteArray).size = 0 := rfl
  have h1 : (⟨#[107]⟩ : ByteArray).size = 1 := rfl
  unfold seB
  split <;> dsimp only <;> (try rw [rep_size _ _ rfl]) <;> omega

theorem Four.below {w w' : World} {p : Nat} {t : TypeId} {x0 x1 x2 x3 : Value} (h : w.heap[p]? = some (.cells #[x0, x1, x2, x3] t (0, 0))) (hb : Below w.heap.size w w') : w'.heap[p]? = some (.cells #[x0, x1, x2, x3] t (0, 0)) := (hb.block p (heap_lt h)).trans h
theorem newB (w : World) (o : Obj) : Below w.heap.size w (w.alloc o) := (Below.refl _ _).alloc (Nat.le_refl _) _

set_option maxRecDepth 100000 in
set_option maxHeartbeats 4000000 in
theorem l2SpoilEntry_se (a : Option Addr) (cap : Nat) (bs : List UInt8) (p : Nat) (f : En) (w : World) (hx : LieB w a bs) (hl : bs.length ≤ 1048576) (hp : p ≤ 50000) (O : En) (HO : Hid (O = seB (tk bs p 8) (tk bs (p + 1) 2) f)) :
    Calls Tryz.prog 15 #[.slice a bs.length cap, .int .i64 p, .agg #[.string f.ky, .int .i64 f.sq, .int .i64 f.kd, .string f.vl]] w fun e w' => e = .returned (.agg #[.string O.ky, .int .i64 O.sq, .int .i64 O.kd, .string O.vl]) ∧ Below w.heap.size w w' := by
  have HT := hd0 (fun (w' : World) (q n : Nat) (hb : Below w.heap.size w w') (h1 : q ≤ 1000000) (h2 : n ≤ 2000000) => l1Take_tk a cap bs q n w' (hx.below hb) hl h1 h2)
  have hA8 := tk_lt bs p 8 (by omega)
  have hx2 := tk_lt bs (p + 1) 2 (by omega)
  generalize bs.length = len at *
  clear hx
  have hb0 : Below w.heap.size w ((w.alloc (.cells #[.string f.ky, .int .i64 f.sq, .int .i64 f.kd, .string f.vl] 39)).alloc (.cells #[.string ⟨#[]⟩, .int .i64 0, .int .i64 0, .string ⟨#[]⟩] 39)) := (newB w _).trans ((newB _ _).mono (by simp))
  have bP0 := Four.below (World.heap_alloc_new w (.cells #[.string f.ky, .int .i64 f.sq, .int .i64 f.kd, .string f.vl] 39)) (newB _ (.cells #[.string ⟨#[]⟩, .int .i64 0, .int .i64 0, .string ⟨#[]⟩] 39))
  have bR0 : ((w.alloc (.cells #[.string f.ky, .int .i64 f.sq, .int .i64 f.kd, .string f.vl] 39)).alloc (.cells #[.string ⟨#[]⟩, .int .i64 0, .int .i64 0, .string ⟨#[]⟩] 39)).heap[w.heap.size + 1]? = some (.cells #[.string ⟨#[]⟩, .int .i64 0, .int .i64 0, .string ⟨#[]⟩] 39 (0, 0)) := by
    have h := World.heap_alloc_new (w.alloc (.cells #[.string f.ky, .int .i64 f.sq, .int .i64 f.kd, .string f.vl] 39)) (.cells #[.string ⟨#[]⟩, .int .i64 0, .int .i64 0, .string ⟨#[]⟩] 39)
    have e : (w.alloc (.cells #[.string f.ky, .int .i64 f.sq, .int .i64 f.kd, .string f.vl] 39)).heap.size = w.heap.size + 1 := by simp
    rw [e] at h
    exact h
  go_enter Tryz.func15, Tryz.ntmps15
  go_wp2_with fail
  refine (HT.out _ p 8 hb0 (by omega) (by omega)).mono ?_
  rintro e w1 ⟨rfl, hb1⟩
  have hbw1 := hb0.trans (hb1.mono hb0.size)
  have bP1 := Four.below bP0 hb1
  have bR1 := Four.below bR0 hb1
  clear hb0 hb1 bP0 bR0
  go_wp2_with fail
  refine (HT.out _ (p + 1) 2 hbw1 (by omega) (by omega)).mono ?_
  rintro e w2 ⟨rfl, hb2⟩
  have hbw2 := hbw1.trans (hb2.mono hbw1.size)
  have bP2 := Four.below bP1 hb2
  have bR2 := Four.below bR1 hb2
  clear hb2 bP1 bR1 hbw1 HT
  generalize tk bs p 8 = A at *
  generalize tk bs (p + 1) 2 = x at *
  have hP := heap_lt bP2
  have hR := heap_lt bR2
  have n1 : w.heap.size ≠ w.heap.size + 1 := by omega
  have n2 : w.heap.size + 1 ≠ w.heap.size := by omega
  obtain ⟨⟨c0, c1, c2, c3⟩, z0, z1, z2, z3⟩ := four_cells bP2
  obtain ⟨⟨r0, r1, r2, r3⟩, y0, y1, y2, y3⟩ := four_cells bR2
  have h8 : A = 0 ∨ A = 1 ∨ A = 2 ∨ A = 3 ∨ A = 4 ∨ A = 5 ∨ A = 6 ∨ A = 7 := by omega
  clear hA8
  go_upto_region 4 with fail
  rcases h8 with rfl | rfl | rfl | rfl | rfl | rfl | rfl | rfl
  · obtain rfl : O = ⟨⟨#[]⟩, f.sq, f.kd, f.vl⟩ := HO.out
    clear HO
    go_wp2_with fail
    refine bodyPost_ret (v := .agg #[.string ⟨#[]⟩, .int .i64 f.sq, .int .i64 f.kd, .string f.vl]) (by simp [results, Tryz.results15, go_sem, r0, r1, r2, r3, c0, c1, c2, c3, n1, n2]) rfl ⟨rfl, ?_⟩
    exact (((((hbw2.setCell (p := ⟨w.heap.size, 0, none⟩) (by exact Nat.le_refl _) _).setCell (p := ⟨w.heap.size + 1, 0, none⟩) (by exact Nat.le_succ _) _).setCell (p := ⟨w.heap.size + 1, 1, none⟩) (by exact Nat.le_succ _) _).setCell (p := ⟨w.heap.size + 1, 2, none⟩) (by exact Nat.le_succ _) _).setCell (p := ⟨w.heap.size + 1, 3, none⟩) (by exact Nat.le_succ _) _)
  · have HLg := hd0 (fun w' => l1Long_rep (1000 + x) ⟨#[107]⟩ w' rfl (by omega))
    have HOO : Hid (O = ⟨rep (1000 + x) ⟨#[107]⟩, f.sq, f.kd, f.vl⟩) := HO.out
    generalize rep (1000 + x) ⟨#[107]⟩ = t at *
    obtain rfl : O = ⟨t, f.sq, f.kd, f.vl⟩ := HOO.out
    clear HO HOO
    go_wp2_with fail
    refine (HLg.out _).mono ?_
    rintro e w3 ⟨rfl, hb3⟩
    obtain ⟨⟨d0, d1, d2, d3⟩, x0, x1, x2, x3⟩ := four_cells (Four.below bP2 hb3)
    obtain ⟨⟨s0, s1, s2, s3⟩, t0, t1, t2, t3⟩ := four_cells (Four.below bR2 hb3)
    have hP3 := heap_lt (Four.below bP2 hb3)
    have hR3 := heap_lt (Four.below bR2 hb3)
    have hbw3 := hbw2.trans (hb3.mono hbw2.size)
    go_wp2_with fail
    refine bodyPost_ret (v := .agg #[.string t, .int .i64 f.sq, .int .i64 f.kd, .string f.vl]) (by simp [results, Tryz.results15, go_sem, s0, s1, s2, s3, d0, d1, d2, d3, n1, n2]) rfl ⟨rfl, ?_⟩
    exact (((((hbw3.setCell (p := ⟨w.heap.size, 0, none⟩) (by exact Nat.le_refl _) _).setCell (p := ⟨w.heap.size + 1, 0, none⟩) (by exact Nat.le_succ _) _).setCell (p := ⟨w.heap.size + 1, 1, none⟩) (by exact Nat.le_succ _) _).setCell (p := ⟨w.heap.size + 1, 2, none⟩) (by exact Nat.le_succ _) _).setCell (p := ⟨w.heap.size + 1, 3, none⟩) (by exact Nat.le_succ _) _)
  · obtain rfl : O = ⟨f.ky, ((x : Int) * 72057594037927935), f.kd, f.vl⟩ := HO.out
    clear HO
    go_wp2_with fail
    refine bodyPost_ret (v := .agg #[.string f.ky, .int .i64 ((x : Int) * 72057594037927935), .int .i64 f.kd, .string f.vl]) (by simp [results, Tryz.results15, go_sem, r0, r1, r2, r3, c0, c1, c2, c3, n1, n2]) rfl ⟨rfl, ?_⟩
    exact (((((hbw2.setCell (p := ⟨w.heap.size, 1, none⟩) (by exact Nat.le_refl _) _).setCell (p := ⟨w.heap.size + 1, 0, none⟩) (by exact Nat.le_succ _) _).setCell (p := ⟨w.heap.size + 1, 1, none⟩) (by exact Nat.le_succ _) _).setCell (p := ⟨w.heap.size + 1, 2, none⟩) (by exact Nat.le_succ _) _).setCell (p := ⟨w.heap.size + 1, 3, none⟩) (by exact Nat.le_succ _) _)
  · obtain rfl : O = ⟨f.ky, 72057594037927936, f.kd, f.vl⟩ := HO.out
    clear HO
    go_wp2_with fail
    refine bodyPost_ret (v := .agg #[.string f.ky, .int .i64 72057594037927936, .int .i64 f.kd, .string f.vl]) (by simp [results, Tryz.results15, go_sem, r0, r1, r2, r3, c0, c1, c2, c3, n1, n2]) rfl ⟨rfl, ?_⟩
    exact (((((hbw2.setCell (p := ⟨w.heap.size, 1, none⟩) (by exact Nat.le_refl _) _).setCell (p := ⟨w.heap.size + 1, 0, none⟩) (by exact Nat.le_succ _) _).setCell (p := ⟨w.heap.size + 1, 1, none⟩) (by exact Nat.le_succ _) _).setCell (p := ⟨w.heap.size + 1, 2, none⟩) (by exact Nat.le_succ _) _).setCell (p := ⟨w.heap.size + 1, 3, none⟩) (by exact Nat.le_succ _) _)
  · obtain rfl : O = ⟨f.ky, f.sq, 2, f.vl⟩ := HO.out
    clear HO
    go_wp2_with fail
    refine bodyPost_ret (v := .agg #[.string f.ky, .int .i64 f.sq, .int .i64 2, .string f.vl]) (by simp [results, Tryz.results15, go_sem, r0, r1, r2, r3, c0, c1, c2, c3, n1, n2]) rfl ⟨rfl, ?_⟩
    exact (((((hbw2.setCell (p := ⟨w.heap.size, 2, none⟩) (by exact Nat.le_refl _) _).setCell (p := ⟨w.heap.size + 1, 0, none⟩) (by exact Nat.le_succ _) _).setCell (p := ⟨w.heap.size + 1, 1, none⟩) (by exact Nat.le_succ _) _).setCell (p := ⟨w.heap.size + 1, 2, none⟩) (by exact Nat.le_succ _) _).setCell (p := ⟨w.heap.size + 1, 3, none⟩) (by exact Nat.le_succ _) _)
  · have HLg := hd0 (fun w' => l1Long_rep (4000 + x) ⟨#[118]⟩ w' rfl (by omega))
    have HOO : Hid (O = ⟨⟨#[107]⟩, 1, 1, rep (4000 + x) ⟨#[118]⟩⟩) := HO.out
    generalize rep (4000 + x) ⟨#[118]⟩ = t at *
    obtain rfl : O = ⟨⟨#[107]⟩, 1, 1, t⟩ := HOO.out
    clear HO HOO
    go_wp2_with fail
    refine (HLg.out _).mono ?_
    rintro e w3 ⟨rfl, hb3⟩
    obtain ⟨⟨d0, d1, d2, d3⟩, x0, x1, x2, x3⟩ := four_cells (Four.below bP2 hb3)
    obtain ⟨⟨s0, s1, s2, s3⟩, t0, t1, t2, t3⟩ := four_cells (Four.below bR2 hb3)
    have hP3 := heap_lt (Four.below bP2 hb3)
    have hR3 := heap_lt (Four.below bR2 hb3)
    have hbw3 := hbw2.trans (hb3.mono hbw2.size)
    go_wp2_with fail
    refine bodyPost_ret (v := .agg #[.string ⟨#[107]⟩, .int .i64 1, .int .i64 1, .string t]) (by simp [results, Tryz.results15, go_sem, s0, s1, s2, s3, d0, d1, d2, d3, n1, n2]) rfl ⟨rfl, ?_⟩
    exact ((((((((hbw3.setCell (p := ⟨w.heap.size, 0, none⟩) (by exact Nat.le_refl _) _).setCell (p := ⟨w.heap.size, 1, none⟩) (by exact Nat.le_refl _) _).setCell (p := ⟨w.heap.size, 2, none⟩) (by exact Nat.le_refl _) _).setCell (p := ⟨w.heap.size, 3, none⟩) (by exact Nat.le_refl _) _).setCell (p := ⟨w.heap.size + 1, 0, none⟩) (by exact Nat.le_succ _) _).setCell (p := ⟨w.heap.size + 1, 1, none⟩) (by exact Nat.le_succ _) _).setCell (p := ⟨w.heap.size + 1, 2, none⟩) (by exact Nat.le_succ _) _).setCell (p := ⟨w.heap.size + 1, 3, none⟩) (by exact Nat.le_succ _) _)
  · have HLg := hd0 (fun w' => l1Long_rep x ⟨#[118]⟩ w' rfl (by omega))
    have HOO : Hid (O = ⟨f.ky, f.sq, 0, rep x ⟨#[118]⟩⟩) := HO.out
    generalize rep x ⟨#[118]⟩ = t at *
    obtain rfl : O = ⟨f.ky, f.sq, 0, t⟩ := HOO.out
    clear HO HOO
    go_upto_region 18 with fail
    have bP5 : (w2.setCell ⟨w.heap.size, 2, none⟩ (.int .i64 0)).heap[w.heap.size]? = some (.cells #[.string f.ky, .int .i64 f.sq, .int .i64 0, .string f.vl] 39 (0, 0)) := by rw [heap_setCell_same _ _ _ _ _ _ bP2]; rfl
    have bR5 : (w2.setCell ⟨w.heap.size, 2, none⟩ (.int .i64 0)).heap[w.heap.size + 1]? = some (.cells #[.string ⟨#[]⟩, .int .i64 0, .int .i64 0, .string ⟨#[]⟩] 39 (0, 0)) := (Below.heap_setCell _ _ _ _ (by dsimp only; omega)).trans bR2
    have hbw5 : Below w.heap.size w (w2.setCell ⟨w.heap.size, 2, none⟩ (.int .i64 0)) := hbw2.setCell (p := ⟨w.heap.size, 2, none⟩) (by exact Nat.le_refl _) _
    generalize w2.setCell ⟨w.heap.size, 2, none⟩ (.int .i64 0) = w5 at *
    clear c0 c1 c2 c3 r0 r1 r2 r3 z0 z1 z2 z3 y0 y1 y2 y3 hP hR bP2 bR2 hbw2
    go_wp2_with fail
    refine (HLg.out _).mono ?_
    rintro e w3 ⟨rfl, hb3⟩
    obtain ⟨⟨d0, d1, d2, d3⟩, x0, x1, x2, x3⟩ := four_cells (Four.below bP5 hb3)
    obtain ⟨⟨s0, s1, s2, s3⟩, t0, t1, t2, t3⟩ := four_cells (Four.below bR5 hb3)
    have hP3 := heap_lt (Four.below bP5 hb3)
    have hR3 := heap_lt (Four.below bR5 hb3)
    have hbw3 := hbw5.trans (hb3.mono hbw5.size)
    go_wp2_with fail
    refine bodyPost_ret (v := .agg #[.string f.ky, .int .i64 f.sq, .int .i64 0, .string t]) (by simp [results, Tryz.results15, go_sem, s0, s1, s2, s3, d0, d1, d2, d3, n1, n2]) rfl ⟨rfl, ?_⟩
    exact (((((hbw3.setCell (p := ⟨w.heap.size, 3, none⟩) (by exact Nat.le_refl _) _).setCell (p := ⟨w.heap.size + 1, 0, none⟩) (by exact Nat.le_succ _) _).setCell (p := ⟨w.heap.size + 1, 1, none⟩) (by exact Nat.le_succ _) _).setCell (p := ⟨w.heap.size + 1, 2, none⟩) (by exact Nat.le_succ _) _).setCell (p := ⟨w.heap.size + 1, 3, none⟩) (by exact Nat.le_succ _) _)
  · obtain rfl : O = ⟨f.ky, (-1), f.kd, f.vl⟩ := HO.out
    clear HO
    go_wp2_with fail
    refine bodyPost_ret (v := .agg #[.string f.ky, .int .i64 (-1), .int .i64 f.kd, .string f.vl]) (by simp [results, Tryz.results15, go_sem, r0, r1, r2, r3, c0, c1, c2, c3, n1, n2]) rfl ⟨rfl, ?_⟩
    exact (((((hbw2.setCell (p := ⟨w.heap.size, 1, none⟩) (by exact Nat.le_refl _) _).setCell (p := ⟨w.heap.size + 1, 0, none⟩) (by exact Nat.le_succ _) _).setCell (p := ⟨w.heap.size + 1, 1, none⟩) (by exact Nat.le_succ _) _).setCell (p := ⟨w.heap.size + 1, 2, none⟩) (by exact Nat.le_succ _) _).setCell (p := ⟨w.heap.size + 1, 3, none⟩) (by exact Nat.le_succ _) _)
end Go.Proofs.YtogcpllpkdeehaaGreatDoor
namespace Go.Proofs.YtogcpllpkdeehaaGreatDoor
open Go.RowKit Go.Maps
set_option linter.unusedVariables false
set_option linter.unusedSimpArgs false

theorem cellsE_cons (e : En) (xs : List En) : cellsE (e :: xs) = .string e.ky :: .int .i64 e.sq :: .int .i64 e.kd :: .string e.vl :: cellsE xs := rfl
theorem cellsE_set : ∀ (xs : List En) (x : Nat) (e : En), x < xs.length → ((((cellsE xs).set (x * 4) (.string e.ky)).set (x * 4 + 1) (.int .i64 e.sq)).set (x * 4 + 2) (.int .i64 e.kd)).set (x * 4 + 3) (.string e.vl) = cellsE (xs.set x e)
  | [], x, e, h => absurd h (by simp)
  | f :: r, 0, e, _ => rfl
  | f :: r, x + 1, e, h => by
    have ih := cellsE_set r x e (by simpa using h)
    rw [List.set_cons_succ, cellsE_cons, cellsE_cons, ← ih]
    rw [show (x + 1) * 4 = x * 4 + 1 + 1 + 1 + 1 by omega]
    simp only [List.set_cons_succ]
theorem own_set {w : World} {B g cap x : Nat} {xs : List En} (h : w.ownsRow B 39 4 (.slice (some ⟨g, 0, none⟩) xs.length cap) xs.length (cellsE xs)) (hx : x < xs.length) (e : En) :
    ((((w.setCell ⟨g, x * 4, none⟩ (.string e.ky)).setCell ⟨g, x * 4 + 1, none⟩ (.int .i64 e.sq)).setCell ⟨g, x * 4 + 2, none⟩ (.int .i64 e.kd)).setCell ⟨g, x * 4 + 3, none⟩ (.string e.vl)).ownsRow B 39 4 (.slice (some ⟨g, 0, none⟩) (xs.set x e).length cap) (xs.set x e).length (cellsE (xs.set x e)) := by
  have h1 := ((((h.stored (x * 4) (.string e.ky)).1.stored (x * 4 + 1) (.int .i64 e.sq)).1.stored (x * 4 + 2) (.int .i64 e.kd)).1.stored (x * 4 + 3) (.string e.vl)).1
  rw [cellsE_set xs x e hx] at h1
  rw [List.length_set]
  exact h1
theorem own_form {w : World} {B n : Nat} {v : Value} {xs : List En} (h : w.ownsRow B 39 4 v n (cellsE xs)) : n = xs.length ∧ ((v = .slice none 0 0 ∧ xs = []) ∨ ∃ g cap, v = .slice (some ⟨g, 0, none⟩) xs.length cap ∧ B ≤ g ∧ g < w.heap.size ∧ xs.length ≤ cap) := by
  obtain ⟨h1, h2⟩ := h
  rw [cellsE_len] at h1
  have hn : n = xs.length := by omega
  subst hn
  refine ⟨rfl, ?_⟩
  rcases h2 with ⟨rfl, h⟩ | ⟨g, cap, cur, rfl, hg, hh, hle, -⟩
  · exact .inl ⟨rfl, List.eq_nil_of_length_eq_zero h⟩
  · exact .inr ⟨g, cap, rfl, hg, heap_lt hh, hle⟩
theorem own_fin {w : World} {B n : Nat} {v : Value} {xs : List En} (h : w.ownsRow B 39 4 v n (cellsE xs)) : ∃ a cap, v = .slice a xs.length cap ∧ xs.length ≤ cap ∧ LieE w a xs := by
  obtain ⟨h1, h2⟩ := own_form h
  obtain ⟨-, a, cap, hv, hl⟩ := lieE_of_owns h
  rcases h2 with ⟨rfl, rfl⟩ | ⟨g, cap', rfl, -, -, hle⟩
  · exact ⟨none, 0, rfl, Nat.le_refl _, .inl rfl⟩
  · injection hv with e1 e2 e3
    subst e1 e3
    exact ⟨_, _, rfl, hle, hl.1⟩
theorem own_cells {w : World} {B g cap x : Nat} {xs : List En} (h : w.ownsRow B 39 4 (.slice (some ⟨g, 0, none⟩) xs.length cap) xs.length (cellsE xs)) (hx : x < xs.length) :
    (w.cell? ⟨g, x * 4, none⟩ = some (.string (xs.getD x en0).ky) ∧ w.cell? ⟨g, x * 4 + 1, none⟩ = some (.int .i64 (xs.getD x en0).sq) ∧ w.cell? ⟨g, x * 4 + 2, none⟩ = some (.int .i64 (xs.getD x en0).kd) ∧ w.cell? ⟨g, x * 4 + 3, none⟩ = some (.string (xs.getD x en0).vl)) ∧ w.frozen? ⟨g, x * 4, none⟩ = false ∧ w.frozen? ⟨g, x * 4 + 1, none⟩ = false ∧ w.frozen? ⟨g, x * 4 + 2, none⟩ = false ∧ w.frozen? ⟨g, x * 4 + 3, none⟩ = false := by
  obtain ⟨a0, a1, a2, a3⟩ := cellsE_at xs x hx
  refine ⟨⟨?_, ?_, ?_, ?_⟩, h.frozenAt _, h.frozenAt _, h.frozenAt _, h.frozenAt _⟩
  · rw [h.cellAt _ (by omega), a0]
  · rw [h.cellAt _ (by omega), a1]
  · rw [h.cellAt _ (by omega), a2]
  · rw [h.cellAt _ (by omega), a3]

/-- The entries that are drawn for a table, by what is done to them. -/
def dbF (how x A y : Nat) (es : List En) : List En :=
  if 14 ≤ how then (if es.length = 0 then es else es.set x (seB A y (es.getD x en0)))
  else if how = 13 then (if x = 0 then es else (es.set x (es.getD (x - 1) en0)).set (x - 1) (es.getD x en0))
  else if how = 12 then (if es.length = 0 then es else es ++ [es.getD (es.length - 1) en0])
  else es
def dbE (bs : List UInt8) : List En := soS (deL bs 1 1 (cntN bs.length))
def dbQ (bs : List UInt8) : Nat := 1 + 4 * cntN bs.length
def dbT (bs : List UInt8) : List En := dbF (tk bs 0 16) (tk bs (dbQ bs) (dbE bs).length) (tk bs (dbQ bs + 1) 8) (tk bs (dbQ bs + 1 + 1) 2) (dbE bs)
theorem getD_midE {xs : List En} (h : SmallE xs) (x : Nat) : (xs.getD x en0).ky.size ≤ 70 ∧ (xs.getD x en0).vl.size ≤ 1000 := by
  by_cases hx : x < xs.length
  · exact h _ (by rw [List.getD_eq_getElem?_getD, List.getElem?_eq_getElem hx]; exact List.getElem_mem hx)
  · rw [List.getD_eq_getElem?_getD, List.getElem?_eq_none (by omega)]
    exact ⟨Nat.zero_le _, Nat.zero_le _⟩
theorem dbF_mid {how x A y : Nat} {es : List En} (h : SmallE es) (hy : y < 2) (hl : es.length ≤ 40) : MidE (dbF how x A y es) ∧ (dbF how x A y es).length ≤ 41 := by
  have hm : MidE es := fun e he => by have := h e he; omega
  have hset : ∀ (zs : List En) (i : Nat) (f : En), MidE zs → (f.ky.size ≤ 2000 ∧ f.vl.size ≤ 5000) → MidE (zs.set i f) := fun zs i f hz hf e he => by
    rcases List.mem_or_eq_of_mem_set he with h | h
    · exact hz e h
    · rw [h]; exact hf
  unfold dbF
  split
  · split
    · exact ⟨hm, by omega⟩
    · exact ⟨hset _ _ _ hm (seB_mid _ _ _ hy (getD_midE h _)), by rw [List.length_set]; omega⟩
  · split
    · split
      · exact ⟨hm, by omega⟩
      · refine ⟨hset _ _ _ (hset _ _ _ hm ?_) ?_, by rw [List.length_set, List.length_set]; omega⟩
        · have := getD_midE h (x - 1); omega
        · have := getD_midE h x; omega
    · split
      · split
        · exact ⟨hm, by omega⟩
        · refine ⟨fun e he => ?_, by simp; omega⟩
          rcases List.mem_append.1 he with he | he
          · exact hm e he
          · simp at he
            subst he
            have := getD_midE h (es.length - 1)
            simp only [List.getD_eq_getElem?_getD] at this
            omega
      · exact ⟨hm, by omega⟩
theorem dbE_ok (bs : List UInt8) : SmallE (dbE bs) ∧ (dbE bs).length ≤ 40 := by
  refine ⟨soS_small _ (deL_small _ _ _ _), ?_⟩
  have h1 := soS_len (deL bs 1 1 (cntN bs.length))
  rw [deL_len] at h1
  unfold dbE
  unfold cntN at *
  omega
theorem dbT_mid (bs : List UInt8) : MidE (dbT bs) ∧ (dbT bs).length ≤ 41 := dbF_mid (dbE_ok bs).1 (tk_lt _ _ _ (by omega)) (dbE_ok bs).2

set_option maxRecDepth 100000 in
set_option maxHeartbeats 4000000 in
theorem drawTable_any (a : Option Addr) (cap : Nat) (bs : List UInt8) (w : World) (hx : LieB w a bs) (hl : bs.length ≤ 1048576) :
    Calls Tryz.prog 4 #[.slice a bs.length cap] w fun e w' => ∃ a' cap', e = .returned (.slice a' (dbT bs).length cap') ∧ (dbT bs).length ≤ cap' ∧ LieE w' a' (dbT bs) ∧ Below w.heap.size w w' := by
  have HT := hd0 (fun (w' : World) (q n : Nat) (hb : Below w.heap.size w w') (h1 : q ≤ 1000000) (h2 : n ≤ 2000000) => l1Take_tk a cap bs q n w' (hx.below hb) hl h1 h2)
  have HC := hd0 (fun (w' : World) => l1Count_40 a cap bs.length w' hl)
  have hc40 : cntN bs.length ≤ 40 := by unfold cntN; omega
  have HD := hd0 (fun (w' : World) (hb : Below w.heap.size w w') => l2DrawEntries_de a cap bs 1 (cntN bs.length) 1 w' (hx.below hb) hl (by omega) (by omega) (by omega))
  have HSo := hd0 (fun (w' : World) (a' : Option Addr) (cap' : Nat) (hL : LieE w' a' (deL bs 1 1 (cntN bs.length))) => l3Sorted_so a' cap' (deL bs 1 1 (cntN bs.length)) w' hL (deL_small _ _ _ _) (by rw [deL_len]; omega))
  have hdl := deL_len bs 1 1 (cntN bs.length)
  have HSp := hd0 (fun (w' : World) (f : En) (hb : Below w.heap.size w w') => l2SpoilEntry_se a cap bs (dbQ bs + 1) f w' (hx.below hb) hl (by unfold dbQ; omega) _ rfl)
  have EQ : Hid (dbQ bs = 1 + 4 * cntN bs.length) := rfl
  have hQ : dbQ bs ≤ 200 := by unfold dbQ; omega
  have EE : Hid (soS (deL bs 1 1 (cntN bs.length)) = dbE bs) := rfl
  have hel := (dbE_ok bs).2
  have HXL : Hid (0 < (dbE bs).length → tk bs (dbQ bs) (dbE bs).length < (dbE bs).length) := fun h => tk_lt bs _ _ h
  have HX0 : Hid ((dbE bs).length = 0 → tk bs (dbQ bs) (dbE bs).length = 0) := fun h => by rw [h]; unfold tk; rw [if_pos (.inl rfl)]
  have hhow := tk_lt bs 0 16 (by omega)
  obtain ⟨T, hT⟩ : ∃ T, T = dbT bs := ⟨_, rfl⟩
  rw [← hT]
  unfold dbT at hT
  replace hT := hd0 hT
  rw [EE.out] at HSo
  rw [hdl] at HSo
  have EDL := hd0 hdl
  clear hdl EE
  generalize dbE bs = E at *
  generalize deL bs 1 1 (cntN bs.length) = D at *
  generalize cntN bs.length = n at *
  generalize bs.length = len at *
  clear hx
  go_enter Tryz.func4, Tryz.ntmps4
  go_wp2_with fail
  refine (HT.out _ 0 16 (Below.refl _ _) (by omega) (by omega)).mono ?_
  rintro e w1 ⟨rfl, hb1⟩
  go_wp2_with fail
  refine (HC.out _).mono ?_
  rintro e w2 ⟨rfl, hb2⟩
  have hbw2 := hb1.trans (hb2.mono hb1.size)
  clear hb1 hb2
  go_wp2_with fail
  refine (HD.out _ hbw2).mono ?_
  rintro e w3 ⟨a3, c3, rfl, hL3, hb3⟩
  have hbw3 := hbw2.trans (hb3.mono hbw2.size)
  clear hb3 hbw2
  go_wp2_with fail
  refine (HSo.out _ a3 c3 hL3).mono ?_
  rintro e w4 ⟨v, rfl, hown, hb4⟩
  have hbw4 := hbw3.trans (hb4.mono hbw3.size)
  have hs4 := hbw3.size
  clear hb4 hL3
  rw [show (1 : Int) + 4 * (n : Int) = ((dbQ bs : Nat) : Int) by have := EQ.out; omega]
  generalize dbQ bs = Q at *
  clear EQ HD HSo HC EDL
  obtain ⟨a5, c5, hv, hcap5, hL5⟩ := own_fin hown
  subst hv
  go_wp2_with fail
  refine (HT.out _ Q E.length hbw4 (by omega) (by omega)).mono ?_
  rintro e w6 ⟨rfl, hb6⟩
  have hbw6 := hbw4.trans (hb6.mono hbw4.size)
  replace hL5 := hL5.below hb6
  have hown6 := own_belowT hown hb6
  have hs6 := hbw6.size
  clear hown hb6 hbw4 HT hbw3
  have hs36 : w3.heap.size ≤ w6.heap.size ∨ True := .inr trivial
  clear hs36
  generalize tk bs 0 16 = how at *
  generalize tk bs Q E.length = x at *
  have HF := hown6
  replace hown6 := hd0 hown6
  have hform := own_form HF
  clear HF
  by_cases h14 : 14 ≤ how
  · have h14' : (14 : Int) ≤ how := by omega
    have ne13 : ¬ (how : Int) = 13 := by omega
    have ne12 : ¬ (how : Int) = 12 := by omega
    by_cases h0 : E.length = 0
    · have hT' : T = E := by rw [hT.out]; unfold dbF; rw [if_pos h14, if_pos h0]
      have hE : E = [] := List.eq_nil_of_length_eq_zero h0
      subst hE
      subst hT'
      go_wp2_with fail
      go_ret
      exact ⟨a5, c5, rfl, hcap5, hL5, hbw6⟩
    · have hx' := HXL.out (by omega)
      have hp0 : (0 : Int) < E.length := by omega
      have hxi : (x : Int) < E.length := by omega
      rcases hform with ⟨-, ⟨-, hE⟩ | ⟨g, cp, hv, hg, hgl, hcp⟩⟩
      · exact absurd (by rw [hE]; rfl) h0
      injection hv with e1 e2 e3
      subst e1 e3
      clear e2
      obtain ⟨⟨k0, k1, k2, k3⟩, -⟩ := own_cells hown6.out hx'
      have HSpx := hd0 (HSp.out w6 (E.getD x en0) hbw6)
      have HTT : Hid (T = E.set x (seB (tk bs (Q + 1) 8) (tk bs (Q + 1 + 1) 2) (E.getD x en0))) := by show _ = _; rw [hT.out]; unfold dbF; rw [if_pos h14, if_neg h0]
      generalize seB (tk bs (Q + 1) 8) (tk bs (Q + 1 + 1) 2) (E.getD x en0) = N at *
      generalize hfx : E.getD x en0 = f at *
      clear hfx HSp hT
      go_wp2_with fail
      refine HSpx.out.mono ?_
      rintro e w7 ⟨rfl, hb7⟩
      have hown7 := own_belowT hown6.out hb7
      have hbw7 := hbw6.trans (hb7.mono hbw6.size)
      obtain ⟨⟨k0, k1, k2, k3⟩, z0, z1, z2, z3⟩ := own_cells hown7 hx'
      have hgl7 : g < w7.heap.size := by have := hb7.size; omega
      have hownN := hd0 (own_set hown7 hx' N)
      have hbN := hd0 ((((hbw7.setCell (p := ⟨g, x * 4, none⟩) (by show w.heap.size ≤ g; omega) (.string N.ky)).setCell (p := ⟨g, x * 4 + 1, none⟩) (by show w.heap.size ≤ g; omega) (.int .i64 N.sq)).setCell (p := ⟨g, x * 4 + 2, none⟩) (by show w.heap.size ≤ g; omega) (.int .i64 N.kd)).setCell (p := ⟨g, x * 4 + 3, none⟩) (by show w.heap.size ≤ g; omega) (.string N.vl))
      clear hown7 hb7 hL5 hbw6 hown6
      go_wp2_with fail
      go_ret
      obtain ⟨a9, c9, hv9, hc9, hl9⟩ := own_fin hownN.out
      rw [HTT.out]
      refine ⟨a9, c9, ?_, hc9, hl9, hbN.out⟩
      rw [← hv9, List.length_set]
      rfl
  · have h14' : ¬ (14 : Int) ≤ how := by omega
    by_cases h13 : how = 13
    · subst h13
      by_cases hx0 : x = 0
      · subst hx0
        have hT' : T = E := by rw [hT.out]; unfold dbF; rw [if_neg (by omega), if_pos rfl, if_pos rfl]
        subst hT'
        go_wp2_with fail
        go_ret
        exact ⟨a5, c5, rfl, hcap5, hL5, hbw6⟩
      · have hEp : 0 < E.length := by
          rcases Nat.eq_zero_or_pos E.length with h | h
          · exact absurd (HX0.out h) hx0
          · exact h
        have hx' := HXL.out hEp
        obtain ⟨y, rfl⟩ : ∃ y, x = y + 1 := ⟨x - 1, by omega⟩
        have hxi : (y : Int) + 1 < E.length := by omega
        have hyi : (y : Int) < E.length := by omega
        have hyp : (0 : Int) < (y : Int) + 1 := by omega
        have HTT : Hid (T = (E.set (y + 1) (E.getD y en0)).set y (E.getD (y + 1) en0)) := by show _ = _; rw [hT.out]; unfold dbF; rw [if_neg (by omega), if_pos rfl, if_neg hx0]; rfl
        rcases hform with ⟨-, ⟨-, hE⟩ | ⟨g, cp, hv, hg, hgl, hcp⟩⟩
        · rw [hE] at hEp; simp at hEp
        injection hv with e1 e2 e3
        subst e1 e3
        clear e2 HSp hT HXL HX0 hx0
        have K1 := own_cells hown6.out hx'
        obtain ⟨f1, hf1⟩ : ∃ f1, E.getD (y + 1) en0 = f1 := ⟨_, rfl⟩
        obtain ⟨f0, hf0⟩ : ∃ f0, E.getD y en0 = f0 := ⟨_, rfl⟩
        rw [hf1] at K1 HTT
        rw [hf0] at HTT
        have HF1 := hd0 hf1
        have HF0 := hd0 hf0
        clear hf1 hf0
        obtain ⟨⟨k0, k1, k2, k3⟩, -⟩ := K1
        go_upto_region 9 with fail
        have hbn := newB w6 (.cells #[.string f1.ky, .int .i64 f1.sq, .int .i64 f1.kd, .string f1.vl] 39)
        have bQ := World.heap_alloc_new w6 (.cells #[.string f1.ky, .int .i64 f1.sq, .int .i64 f1.kd, .string f1.vl] 39)
        have hown7 := own_belowT hown6.out hbn
        have hbw7 := hbw6.trans (hbn.mono hbw6.size)
        have hgq : g < w6.heap.size := hgl
        have hs7 := hbn.size
        generalize w6.alloc (.cells #[.string f1.ky, .int .i64 f1.sq, .int .i64 f1.kd, .string f1.vl] 39) = w7 at *
        generalize w6.heap.size = P at *
        have hg7 : g < w7.heap.size := by omega
        have hgP : g ≠ P := by omega
        have hgP' : P ≠ g := by omega
        clear k0 k1 k2 k3 hown6 hbn hL5 hbw6
        have K1 := own_cells hown7 hx'
        have K0 := own_cells hown7 (x := y) (by omega)
        rw [HF1.out] at K1
        rw [HF0.out] at K0
        obtain ⟨⟨k0, k1, k2, k3⟩, z0, z1, z2, z3⟩ := K1
        obtain ⟨⟨m0, m1, m2, m3⟩, y0, y1, y2, y3⟩ := K0
        go_upto_region 10 with fail
        have hown8 := own_set hown7 hx' f0
        have hbw8 := (((hbw7.setCell (p := ⟨g, (y + 1) * 4, none⟩) (by show w.heap.size ≤ g; omega) (.string f0.ky)).setCell (p := ⟨g, (y + 1) * 4 + 1, none⟩) (by show w.heap.size ≤ g; omega) (.int .i64 f0.sq)).setCell (p := ⟨g, (y + 1) * 4 + 2, none⟩) (by show w.heap.size ≤ g; omega) (.int .i64 f0.kd)).setCell (p := ⟨g, (y + 1) * 4 + 3, none⟩) (by show w.heap.size ≤ g; omega) (.string f0.vl)
        have bQ8 : ((((w7.setCell ⟨g, (y + 1) * 4, none⟩ (.string f0.ky)).setCell ⟨g, (y + 1) * 4 + 1, none⟩ (.int .i64 f0.sq)).setCell ⟨g, (y + 1) * 4 + 2, none⟩ (.int .i64 f0.kd)).setCell ⟨g, (y + 1) * 4 + 3, none⟩ (.string f0.vl)).heap[P]? = some (.cells #[.string f1.ky, .int .i64 f1.sq, .int .i64 f1.kd, .string f1.vl] 39 (0, 0)) := by
          rw [Below.heap_setCell _ _ _ _ (by dsimp only; omega), Below.heap_setCell _ _ _ _ (by dsimp only; omega), Below.heap_setCell _ _ _ _ (by dsimp only; omega), Below.heap_setCell _ _ _ _ (by dsimp only; omega)]
          exact bQ
        generalize ((((w7.setCell ⟨g, (y + 1) * 4, none⟩ (.string f0.ky)).setCell ⟨g, (y + 1) * 4 + 1, none⟩ (.int .i64 f0.sq)).setCell ⟨g, (y + 1) * 4 + 2, none⟩ (.int .i64 f0.kd)).setCell ⟨g, (y + 1) * 4 + 3, none⟩ (.string f0.vl)) = w8 at *
        clear k0 k1 k2 k3 z0 z1 z2 z3 m0 m1 m2 m3 y0 y1 y2 y3 bQ hown7
        have hLs : (E.set (y + 1) f0).length = E.length := List.length_set
        have K0 := own_cells hown8 (x := y) (by rw [hLs]; omega)
        obtain ⟨⟨m0, m1, m2, m3⟩, y0, y1, y2, y3⟩ := K0
        obtain ⟨⟨q0, q1, q2, q3⟩, -⟩ := four_cells bQ8
        have hP8 := heap_lt bQ8
        have hg8 : g < w8.heap.size := by
          rcases own_form hown8 with ⟨-, ⟨h, -⟩ | ⟨g', cp', hv', -, hg', -⟩⟩
          · cases h
          · injection hv' with e1
            injection e1 with e1
            injection e1 with e1
            rw [e1]
            exact hg'
        have hownN := hd0 (own_set hown8 (x := y) (by rw [hLs]; omega) f1)
        have hbN := hd0 ((((hbw8.setCell (p := ⟨g, y * 4, none⟩) (by show w.heap.size ≤ g; omega) (.string f1.ky)).setCell (p := ⟨g, y * 4 + 1, none⟩) (by show w.heap.size ≤ g; omega) (.int .i64 f1.sq)).setCell (p := ⟨g, y * 4 + 2, none⟩) (by show w.heap.size ≤ g; omega) (.int .i64 f1.kd)).setCell (p := ⟨g, y * 4 + 3, none⟩) (by show w.heap.size ≤ g; omega) (.string f1.vl))
        have HLs := hd0 hLs
        clear hLs hown8
        generalize (E.set (y + 1) f0).getD y en0 = fz at *
        go_wp2_with fail
        go_ret
        obtain ⟨a9, c9, hv9, hc9, hl9⟩ := own_fin hownN.out
        rw [HTT.out]
        refine ⟨a9, c9, ?_, hc9, hl9, hbN.out⟩
        rw [← hv9, List.length_set, HLs.out]
        rfl
    · have ne13 : ¬ (how : Int) = 13 := by omega
      by_cases h12 : how = 12
      · subst h12
        by_cases h0 : E.length = 0
        · have hT' : T = E := by rw [hT.out]; unfold dbF; rw [if_neg (by omega), if_neg (by omega), if_pos rfl, if_pos h0]
          have hE : E = [] := List.eq_nil_of_length_eq_zero h0
          subst hE
          subst hT'
          go_wp2_with fail
          go_ret
          exact ⟨a5, c5, rfl, hcap5, hL5, hbw6⟩
        · have hEp : 0 < E.length := by omega
          obtain ⟨i0, hi, hz0, hz1, hz2⟩ := info_parts iEntry_info
          have HTT : Hid (T = E ++ [E.getD (E.length - 1) en0]) := by show _ = _; rw [hT.out]; unfold dbF; rw [if_neg (by omega), if_neg (by omega), if_pos rfl, if_neg h0]
          rcases hform with ⟨-, ⟨-, hE⟩ | ⟨g, cp, hv, hg, hgl, hcp⟩⟩
          · rw [hE] at hEp; simp at hEp
          injection hv with e1 e2 e3
          subst e1 e3
          clear e2 HSp hT HXL HX0 h0
          have hp0 : (0 : Int) < E.length := by omega
          obtain ⟨⟨k0, k1, k2, k3⟩, -⟩ := own_cells hown6.out (x := E.length - 1) (by omega)
          have hli : ((E.length : Int) - 1).toNat = E.length - 1 := by omega
          have hl0 : (0 : Int) ≤ (E.length : Int) - 1 := by omega
          have hl1 : (E.length : Int) - 1 < E.length := by omega
          generalize E.getD (E.length - 1) en0 = f at *
          go_wp2_with (at_builtin; refine wpList_append_own _ rfl _ _ 23 rfl w.heap.size 39 i0 _ 4 48 Tryz.underlying23 hi hz0 hz1 hz2 rfl (by decide) _ _ _ rfl ((own_downT hown6.out hs4).alloc _) ⟨w6.heap.size, 0, none⟩ 1 1 [.string f.ky, .int .i64 f.sq, .int .i64 f.kd, .string f.vl] rfl rfl (cell_first4 _ _ _ _ _ _) (fun x hx => by simp at hx; rcases hx with rfl | rfl | rfl | rfl <;> rfl) (by unfold maxLen; omega) (by omega) (by simp; omega) ?_; intro v' w9 hown4 hgrow hnil; have HO9 := hd0 hown4; have HG := hd0 (((hbw6.alloc (by omega) _).grown hgrow (by simp; omega) (owns_base (own_downT hown6.out hs4)))); clear hown4 hgrow hnil)
          go_ret
          have ho : w9.ownsRow w.heap.size 39 4 v' (E.length + 1) (cellsE (E ++ [f])) := by rw [cellsE_snoc]; exact HO9.out
          obtain ⟨a9, c9, hv9, hc9, hl9⟩ := own_fin ho
          rw [HTT.out]
          exact ⟨a9, c9, by rw [← hv9]; rfl, hc9, hl9, HG.out⟩
      · have ne12 : ¬ (how : Int) = 12 := by omega
        have hT' : T = E := by rw [hT.out]; unfold dbF; rw [if_neg h14, if_neg h13, if_neg h12]
        subst hT'
        go_wp2_with fail
        go_ret
        exact ⟨a5, c5, rfl, hcap5, hL5, hbw6⟩
end Go.Proofs.YtogcpllpkdeehaaGreatDoor
