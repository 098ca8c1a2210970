
import Derived.Test.YtnlmebpajjiomaeDeJ
namespace Go.Proofs.Ytnlmebpajjiomae
open Go.RowKit Go.Maps
set_option linter.unusedVariables false
set_option linter.unusedSimpArgs false

def ed0 : Ed := ⟨[], [], 0, 0, 0⟩
/-- The edit that is answered. -/
def edR (s : ByteArray) : Ed := (decEd s).getD ed0
theorem ResT.wide {w : World} {B B' : Nat} {a : Option Addr} {xs : List Tr} (h : ResT w B a xs) (hB : B' ≤ B) : ResT w B' a xs := by
  rcases h with h | ⟨g, rfl, hg, hr⟩
  · exact .inl h
  · exact .inr ⟨g, rfl, by omega, hr⟩
theorem ResI.wide {w : World} {B B' : Nat} {a : Option Addr} {ks : List Int} (h : ResI w B a ks) (hB : B' ≤ B) : ResI w B' a ks := by
  rcases h with h | ⟨g, rfl, hg, hr⟩
  · exact .inl h
  · exact .inr ⟨g, rfl, by omega, hr⟩
theorem ResT.set {w : World} {B p o : Nat} {a : Option Addr} {xs : List Tr} {v : Value} (hp : p < B) (h : ResT w B a xs) : ResT (w.setCell ⟨p, o, none⟩ v) B a xs :=
  h.kept (fun k hk _ => Below.heap_setCell _ _ _ _ (by dsimp only; omega))
theorem ResI.set {w : World} {B p o : Nat} {a : Option Addr} {xs : List Int} {v : Value} (hp : p < B) (h : ResI w B a xs) : ResI (w.setCell ⟨p, o, none⟩ v) B a xs :=
  h.kept (fun k hk _ => Below.heap_setCell _ _ _ _ (by dsimp only; omega))

set_option maxRecDepth 100000 in
set_option maxHeartbeats 3000000 in
theorem implDecEd_any (s : ByteArray) (w : World) (hs : s.size ≤ 1048576) :
    Calls Try.prog 6 #[.string s] w fun r w' => ∃ (a : Option Addr) (ca : Nat) (d : Option Addr) (cd : Nat), r = .returned (.tuple #[edV a ca d cd (edR s), .bool (decEd s).isSome]) ∧ ResT w' w.heap.size a (edR s).ad ∧ ResI w' w.heap.size d (edR s).dl ∧ Below w.heap.size w w' := by
  generalize hD : decEd s = D
  have HD : Hid (decEd s = D) := hD
  have HR : Hid (edR s = D.getD ed0) := by show _ = _; rw [edR, hD]
  clear hD
  generalize edR s = E at *
  generalize hW0 : (w.alloc (.cells #[.slice none 0 0, .slice none 0 0, .int .i64 0, .int .i64 0, .int .i64 0] 25)).alloc (.cells #[.string s, .int .i64 0, .bool false] 58) = W0
  have hR0 : W0.heap[w.heap.size]? = some (.cells #[.slice none 0 0, .slice none 0 0, .int .i64 0, .int .i64 0, .int .i64 0] 25 (0, 0)) := by rw [← hW0, alloc_old (by simp)]; exact World.heap_alloc_new _ _
  have h0 : Rd W0 (w.heap.size + 1) s 0 false := by rw [← hW0, ← size_alloc]; exact World.heap_alloc_new _ _
  have hs0 : W0.heap.size = w.heap.size + 2 := by rw [← hW0, size_alloc, size_alloc]
  have hb0 : Below w.heap.size w W0 := by rw [← hW0]; exact ((Below.refl _ _).alloc (Nat.le_refl _) _).alloc (by simp) _
  go_enter Try.func6, Try.ntmps6
  go_wp2_with fail
  clear hW0
  refine (edit_any (w.heap.size + 1) s W0 h0 hs).mono ?_
  rintro r w1 ⟨a, ca, d, cd, e, A, fl, rfl, h1, hT1, hI1, hf, hl1, hl2, HE1, HE2, ho1⟩
  have hs1 := ho1.size
  have hR1 := (ho1.block w.heap.size (by omega) (by omega)).trans hR0
  have hb1 : Below w.heap.size w w1 := hb0.trans (ho1.below (by omega) hb0.size)
  clear hR0 h0 hb0 ho1
  have ha1 : Below w1.heap.size w1 (w1.alloc (.cells #[.slice a e.ad.length ca, .slice d e.dl.length cd, .int .i64 e.lg, .int .i64 e.nx, .int .i64 e.la] 25)) := (Below.refl _ _).alloc (Nat.le_refl _) _
  have hE2 : (w1.alloc (.cells #[.slice a e.ad.length ca, .slice d e.dl.length cd, .int .i64 e.lg, .int .i64 e.nx, .int .i64 e.la] 25)).heap[w1.heap.size]? = some (.cells #[.slice a e.ad.length ca, .slice d e.dl.length cd, .int .i64 e.lg, .int .i64 e.nx, .int .i64 e.la] 25 (0, 0)) := World.heap_alloc_new _ _
  have h2 := h1.below ha1
  go_wp2_with fail
  refine (done_any (w.heap.size + 1) A s fl _ h2 hs).mono ?_
  rintro r w3 ⟨rfl, hb3⟩
  have hb13 : Below w1.heap.size w1 w3 := ha1.trans (hb3.mono ha1.size)
  have hR3 := (hb13.block w.heap.size (by omega)).trans hR1
  have hE3 := (hb3.block w1.heap.size (by simp)).trans hE2
  have hT3 := (hT1.below hb13).wide (B' := w.heap.size + 1) (by omega)
  have hI3 := (hI1.below hb13).wide (B' := w.heap.size + 1) (by omega)
  have hbw3 := hb1.trans (hb13.mono hb1.size)
  have hlt3 : w1.heap.size < w3.heap.size := heap_lt hE3
  clear hR1 hE2 ha1 hb3 h2 h1 hb13 hT1 hI1 hb1
  obtain ⟨x0, x1, x2, x3, x4⟩ := five_cells hE3
  obtain ⟨y0, y1, y2, y3, y4⟩ := five_cells hR3
  obtain ⟨z0, z1, z2, z3, z4⟩ := five_free hR3
  cases hdone : (!fl && decide (A = s.size)) with
  | false =>
    have hDn : D = none := by
      rw [← HD.out]
      cases fl with
      | true => exact HE1.out rfl
      | false =>
        have h := HE2.out rfl
        simp at hdone
        simp only [decEd, h]
        rw [if_neg (fun h => hdone h.1)]
    have hEe : E = ed0 := by rw [HR.out, hDn]; rfl
    subst hDn hEe
    clear HD HR
    have HB := hd hbw3
    clear hbw3
    go_wp2_with fail
    refine bodyPost_ret (v := .tuple #[edV none 0 none 0 ed0, .bool false]) (by simp [results, Try.results6, go_sem, y0, y1, y2, y3, y4, ed0]) rfl ⟨none, 0, none, 0, rfl, .inl rfl, .inl rfl, ?_⟩
    repeat refine below_set (by omega) ?_
    exact HB.out
  | true =>
    have hf' : fl = false ∧ A = s.size := by simpa using hdone
    obtain ⟨rfl, rfl⟩ := hf'
    have hP := HE2.out rfl
    go_wp2_with fail
    refine (implEdit_any a ca d cd e _ hT3.lie hf hI3.lie (by omega) (by omega)).mono ?_
    rintro r w4 ⟨rfl, hb4⟩
    have hR4 := (hb4.block w.heap.size (by omega)).trans hR3
    have hE4 := (hb4.block w1.heap.size hlt3).trans hE3
    have hT4 := hT3.below hb4
    have hI4 := hI3.below hb4
    have hbw4 := hbw3.trans (hb4.mono hbw3.size)
    have hs4 := hb4.size
    clear x0 x1 x2 x3 x4 y0 y1 y2 y3 y4 z0 z1 z2 z3 z4 hR3 hE3 hT3 hI3 hbw3 hb4
    obtain ⟨x0, x1, x2, x3, x4⟩ := five_cells hE4
    obtain ⟨y0, y1, y2, y3, y4⟩ := five_cells hR4
    obtain ⟨z0, z1, z2, z3, z4⟩ := five_free hR4
    have HB := hd hbw4
    have HT := hd hT4
    have HI := hd hI4
    clear hbw4 hT4 hI4
    cases hok : edOk e with
    | false =>
      have hDn : D = none := by
        rw [← HD.out]
        simp only [decEd, hP]
        rw [if_neg (by rw [hok]; simp)]
      have hEe : E = ed0 := by rw [HR.out, hDn]; rfl
      subst hDn hEe
      clear HD HR
      go_wp2_with fail
      refine bodyPost_ret (v := .tuple #[edV none 0 none 0 ed0, .bool false]) (by simp [results, Try.results6, go_sem, y0, y1, y2, y3, y4, ed0]) rfl ⟨none, 0, none, 0, rfl, .inl rfl, .inl rfl, ?_⟩
      repeat refine below_set (by omega) ?_
      exact HB.out
    | true =>
      have hDs : D = some e := by
        rw [← HD.out]
        simp only [decEd, hP]
        rw [if_pos ⟨trivial, hok⟩]
      have hEe : E = e := by rw [HR.out, hDs]; rfl
      subst hDs hEe
      clear HD HR
      go_wp2_with fail
      refine bodyPost_ret (v := .tuple #[edV a ca d cd E, .bool true]) (by simp [results, Try.results6, go_sem, x0, x1, x2, x3, x4, y0, y1, y2, y3, y4]) rfl ⟨a, ca, d, cd, rfl, ResT.wide (B := w.heap.size + 1) ?_ (by omega), ResI.wide (B := w.heap.size + 1) ?_ (by omega), ?_⟩
      · repeat refine ResT.set (by omega) ?_
        exact HT.out
      · repeat refine ResI.set (by omega) ?_
        exact HI.out
      · repeat refine below_set (by omega) ?_
        exact HB.out
end Go.Proofs.Ytnlmebpajjiomae
