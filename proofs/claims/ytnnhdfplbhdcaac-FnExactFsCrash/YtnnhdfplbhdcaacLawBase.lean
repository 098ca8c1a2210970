
import Derived.Test.YtnnhdfplbhdcaacMarks
import Derived.Test.YtnnhdfplbhdcaacWalkF
namespace Go.Proofs.Ytnnhdfplbhdcaac
open Go.RowKit Go.Maps
set_option linter.unusedVariables false
set_option linter.unusedSimpArgs false

/-- A slice of files that was made between two sizes of the heap. -/
def RI (w : World) (lo hi : Nat) (a : Option Addr) (cap : Nat) (xs : List Fl) : Prop :=
  xs = [] ∨ ∃ g, a = some ⟨g, 0, none⟩ ∧ lo ≤ g ∧ g < hi ∧ Part w g cap xs xs.length

theorem Res.ri {w : World} {base cap : Nat} {a : Option Addr} {xs : List Fl} (h : Res w base a cap xs) : RI w base w.heap.size a cap xs := by
  rcases h with rfl | ⟨g, rfl, hg, hp⟩
  · exact .inl rfl
  · exact .inr ⟨g, rfl, hg, hp.lt, hp⟩
theorem RI.res {w : World} {lo hi cap : Nat} {a : Option Addr} {xs : List Fl} (h : RI w lo hi a cap xs) : Res w lo a cap xs := by
  rcases h with rfl | ⟨g, rfl, hg, _, hp⟩
  · exact .inl rfl
  · exact .inr ⟨g, rfl, hg, hp⟩
theorem RI.lie {w : World} {lo hi cap : Nat} {a : Option Addr} {xs : List Fl} (h : RI w lo hi a cap xs) : Lie w a xs := h.res.lie
theorem RI.but {w w' : World} {lo hi cap : Nat} {a : Option Addr} {xs : List Fl} {ex : List Nat} (h : RI w lo hi a cap xs) (hb : But ex w.heap.size w w') (he : ∀ g ∈ ex, g < lo ∨ hi ≤ g) : RI w' lo hi a cap xs := by
  rcases h with rfl | ⟨g, rfl, h1, h2, hp⟩
  · exact .inl rfl
  · refine .inr ⟨g, rfl, h1, h2, ?_⟩
    have hlt := hp.lt
    obtain ⟨cs, e1, e2⟩ := hp
    refine ⟨cs, (hb.block g hlt (fun hg => ?_)).trans e1, e2⟩
    rcases he g hg with h | h <;> omega
theorem RI.below {w w' : World} {lo hi cap : Nat} {a : Option Addr} {xs : List Fl} (h : RI w lo hi a cap xs) (hb : Below w.heap.size w w') : RI w' lo hi a cap xs := h.but (ex := []) (But.of hb) (fun g hg => absurd hg (by simp))
theorem RI.le {w : World} {lo hi cap : Nat} {a : Option Addr} {xs : List Fl} (h : RI w lo hi a cap xs) : xs.length ≤ cap ∨ xs = [] := by
  rcases h with rfl | ⟨g, rfl, h1, h2, cs, e1, e2, e3⟩
  · exact .inr rfl
  · by_cases h0 : xs.length = 0
    · exact .inl (by omega)
    · obtain ⟨-, -, h⟩ := e3 (xs.length - 1) (by omega)
      have hlt : (xs.length - 1) * 3 + 2 < cs.size := by
        by_cases hlt : (xs.length - 1) * 3 + 2 < cs.size
        · exact hlt
        · rw [Array.getElem?_eq_none (by omega)] at h; cases h
      exact .inl (by omega)
theorem Part.ri {w : World} {lo g : Nat} {xs : List Fl} (h : Part w g xs.length xs xs.length) (hg : lo ≤ g) : RI w lo w.heap.size (some ⟨g, 0, none⟩) xs.length xs := .inr ⟨g, rfl, hg, h.lt, h⟩

/-- A box of three cells. -/
def Box (w : World) (p : Nat) (t : TypeId) (x0 x1 x2 : Value) : Prop := w.heap[p]? = some (.cells #[x0, x1, x2] t (0, 0))
theorem Box.lt {w : World} {p : Nat} {t : TypeId} {x0 x1 x2 : Value} (h : Box w p t x0 x1 x2) : p < w.heap.size := by
  by_cases hg : p < w.heap.size
  · exact hg
  · unfold Box at h; rw [Array.getElem?_eq_none (by omega)] at h; cases h
theorem Box.but {w w' : World} {p : Nat} {t : TypeId} {x0 x1 x2 : Value} {ex : List Nat} (h : Box w p t x0 x1 x2) (hb : But ex w.heap.size w w') (he : p ∉ ex) : Box w' p t x0 x1 x2 := (hb.block p h.lt he).trans h
theorem Box.below {w w' : World} {p : Nat} {t : TypeId} {x0 x1 x2 : Value} (h : Box w p t x0 x1 x2) (hb : Below w.heap.size w w') : Box w' p t x0 x1 x2 := (hb.block p h.lt).trans h
theorem Box.cells {w : World} {p : Nat} {t : TypeId} {x0 x1 x2 : Value} (h : Box w p t x0 x1 x2) : w.cell? ⟨p, 0, none⟩ = some x0 ∧ w.cell? ⟨p, 1, none⟩ = some x1 ∧ w.cell? ⟨p, 2, none⟩ = some x2 := (three_cells h).1
theorem Box.new (w : World) (t : TypeId) (x0 x1 x2 : Value) : Box (w.alloc (.cells #[x0, x1, x2] t)) w.heap.size t x0 x1 x2 := World.heap_alloc_new _ _
theorem new_below (w : World) (o : Obj) : Below w.heap.size w (w.alloc o) := (Below.refl _ _).alloc (Nat.le_refl _) _

/-- Marking, by the sizes between which the slice was made. -/
theorem mark_any (lo hi : Nat) (a : Option Addr) (cap : Nat) (xs : List Fl) (q fu : Int) (k0 : Nat) (w : World) (hr : RI w lo hi a cap xs) (hn2 : xs.length ≤ 1048576) (hk : 1 ≤ k0) (hk2 : k0 ≤ 4) :
    Calls Try.prog 11 #[.agg #[.slice a xs.length cap, .int .i64 q, .int .i64 fu], .int .i64 k0] w fun e w' => e = .returned (.int .i64 (k0 + 3 * xs.length : Nat)) ∧ RI w' lo hi a cap (mkL k0 xs.length) ∧ ∃ ex, (∀ g ∈ ex, lo ≤ g ∧ g < hi) ∧ But ex w.heap.size w w' := by
  refine (markFS_any lo a cap xs q fu k0 w hr.res hr.le hn2 hk hk2).mono ?_
  rintro e w' ⟨rfl, h1, ex, hex, hb⟩
  refine ⟨rfl, ?_, ?_⟩
  · rcases hr with rfl | ⟨g, rfl, h2, h3, hp⟩
    · exact .inl rfl
    · rcases h1 with h1 | ⟨g', e1, h4, h5⟩
      · exact .inl h1
      · cases e1
        exact .inr ⟨g, rfl, h2, h3, h5⟩
  · rcases hr with rfl | ⟨g, rfl, h2, h3, hp⟩
    · exact ⟨ex, fun g hg => absurd rfl (hex g hg).2.2, hb⟩
    · exact ⟨ex, fun g' hg' => by
        have := (hex g' hg').2.1
        simp only [Option.some.injEq, Addr.mk.injEq, and_true] at this
        omega, hb⟩
end Go.Proofs.Ytnnhdfplbhdcaac
