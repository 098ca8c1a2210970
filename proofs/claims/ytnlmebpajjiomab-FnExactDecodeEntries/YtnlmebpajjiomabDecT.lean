
import Derived.Test.YtnlmebpajjiomabDecE
namespace Go.Proofs.Ytnlmebpajjiomab
open Go.RowKit Go.Maps
set_option linter.unusedVariables false
set_option linter.unusedSimpArgs false

/-- Block g has room for n entries, none of it frozen; the first k of the entries xs stand in it. -/
def RowE (w : World) (g n : Nat) (xs : List En) (k : Nat) : Prop :=
  ∃ cs : Array Value, w.heap[g]? = some (.cells cs 58 (0, 0)) ∧ n * 4 ≤ cs.size ∧
    ∀ i, i < k → cs[i * 4]? = some (.string (xs.getD i en0).ky) ∧ cs[i * 4 + 1]? = some (.int .i64 (xs.getD i en0).sq) ∧ cs[i * 4 + 2]? = some (.int .i64 (xs.getD i en0).kd) ∧ cs[i * 4 + 3]? = some (.string (xs.getD i en0).vl)
/-- A slice that the call made and that holds the entries xs. -/
def ResE (w : World) (base : Nat) (a : Option Addr) (xs : List En) : Prop := xs = [] ∨ ∃ g, a = some ⟨g, 0, none⟩ ∧ base ≤ g ∧ RowE w g xs.length xs xs.length
theorem RowE.block {w w' : World} {g n k : Nat} {xs : List En} (h : RowE w g n xs k) (hb : w'.heap[g]? = w.heap[g]?) : RowE w' g n xs k := by
  obtain ⟨cs, h1, h2, h3⟩ := h
  exact ⟨cs, hb.trans h1, h2, h3⟩
theorem RowE.lt {w : World} {g n k : Nat} {xs : List En} (h : RowE w g n xs k) : g < w.heap.size := by
  obtain ⟨cs, h1, _⟩ := h
  exact heap_lt h1
theorem ResE.kept {w w' : World} {base : Nat} {a : Option Addr} {xs : List En} (h : ResE w base a xs) (hb : ∀ k, base ≤ k → k < w.heap.size → w'.heap[k]? = w.heap[k]?) : ResE w' base a xs := by
  rcases h with h | ⟨g, rfl, hg, hr⟩
  · exact .inl h
  · exact .inr ⟨g, rfl, hg, hr.block (hb g hg hr.lt)⟩
theorem ResE.below {w w' : World} {base : Nat} {a : Option Addr} {xs : List En} (h : ResE w base a xs) (hb : Below w.heap.size w w') : ResE w' base a xs := h.kept (fun k _ hk => hb.block k hk)
theorem ResE.lie {w : World} {base : Nat} {a : Option Addr} {xs : List En} (h : ResE w base a xs) : LieE w a xs := by
  rcases h with h | ⟨g, rfl, hg, hr⟩
  · exact .inl h
  · have hlt := hr.lt
    obtain ⟨cs, h1, h2, h3⟩ := hr
    refine .inr ⟨g, 0, rfl, hlt, fun i hi => ?_⟩
    obtain ⟨a0, a1, a2, a3⟩ := h3 i hi
    exact ⟨by simpa [World.cell?, h1] using a0, by simpa [World.cell?, h1] using a1, by simpa [World.cell?, h1] using a2, by simpa [World.cell?, h1] using a3⟩
theorem resE_of_owns {w : World} {B n : Nat} {v : Value} {xs : List En} (h : w.ownsRow B 58 4 v n (cellsE xs)) :
    n = xs.length ∧ ∃ a cap, v = .slice a xs.length cap ∧ ResE w B a xs := by
  obtain ⟨h1, h2⟩ := h
  have hn : n = xs.length := by rw [cellsE_len] at h1; omega
  refine ⟨hn, ?_⟩
  subst hn
  rcases h2 with ⟨rfl, h0⟩ | ⟨g, cap, cur, rfl, hg, hb, hl, hm, hsz, htk⟩
  · exact ⟨none, 0, by rw [h0], .inl (List.length_eq_zero_iff.1 h0)⟩
  · have hcell : ∀ j, j < xs.length * 4 → cur[j]? = (cellsE xs)[j]? := fun j hj => by
      have e1 : (cur.toList.take (xs.length * 4))[j]? = (cellsE xs)[j]? := by rw [htk]
      rw [List.getElem?_take_of_lt hj] at e1
      simpa using e1
    refine ⟨some ⟨g, 0, none⟩, cap, rfl, .inr ⟨g, rfl, hg, cur, hb, by rw [hsz]; omega, fun i hi => ?_⟩⟩
    obtain ⟨a0, a1, a2, a3⟩ := cellsE_at xs i hi
    exact ⟨by rw [hcell _ (by omega)]; exact a0, by rw [hcell _ (by omega)]; exact a1, by rw [hcell _ (by omega)]; exact a2, by rw [hcell _ (by omega)]; exact a3⟩

theorem pe_no {s : ByteArray} {A B q c : Nat} {t : ByteArray} (h1 : pc s A = some (t, B)) (h2 : gv s (B : Int) = some (q, c)) (h3 : B + c < s.size) (h4 : pc s (B + c + 1) = none) : pe s A = none := by
  simp only [pe, h1, h2, h4]; rw [dif_pos h3]
theorem pe_yes {s : ByteArray} {A B q c E : Nat} {t v : ByteArray} (h1 : pc s A = some (t, B)) (h2 : gv s (B : Int) = some (q, c)) (h3 : B + c < s.size) (h4 : pc s (B + c + 1) = some (v, E)) : pe s A = some (⟨t, q, s[B + c].toNat, v⟩, E) := by
  simp only [pe, h1, h2, h4]; rw [dif_pos h3]
theorem cell_first4 (w : World) (x y z u : Value) (t : TypeId) : ∀ j v, [x, y, z, u][j]? = some v → (w.alloc (.cells #[x, y, z, u] t)).cell? ((⟨w.heap.size, 0, none⟩ : Addr).add j) = some v := by
  intro j v hj
  rw [Go.WideShapes.add_plain]
  have hb : (w.alloc (.cells #[x, y, z, u] t)).heap[w.heap.size]? = some (.cells #[x, y, z, u] t (0, 0)) := World.heap_alloc_new _ _
  simp only [World.cell?, hb]
  match j, hj with
  | 0, hj => simpa using hj
  | 1, hj => simpa using hj
  | 2, hj => simpa using hj
  | 3, hj => simpa using hj

/-- The entries that are given. -/
def decL (s : ByteArray) : List En := (dec s).getD []
theorem decL_len (s : ByteArray) : (decL s).length ≤ 1000 := by
  unfold decL dec
  cases hg : gv s 0 with
  | none => simp
  | some q =>
    obtain ⟨n, c⟩ := q
    obtain ⟨g1, g2, g3, g4⟩ := gv_some (A := 0) hg
    dsimp only
    split
    · rename_i hn
      split
      · simp
      · rename_i xs E hp
        obtain ⟨-, -, -, p4, -⟩ := ps_some (by omega) hp
        split
        · simp; omega
        · simp
    · simp
end Go.Proofs.Ytnlmebpajjiomab
