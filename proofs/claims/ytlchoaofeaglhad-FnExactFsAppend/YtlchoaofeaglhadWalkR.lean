import Derived.Test.YtlchoaofeaglhadWalkP
namespace Go.Proofs.Ytlchoaofeaglhad
open Go.RowKit Go.Maps
set_option linter.unusedVariables false
set_option linter.unusedSimpArgs false

/-- The files but one. -/
def wo (xs : List Fl) (s : ByteArray) : List Fl := xs.filter fun f => !(f.nm.toList == s.toList)

theorem wo_length (xs : List Fl) (s : ByteArray) : (wo xs s).length ≤ xs.length := List.length_filter_le _ _
theorem wo_snoc (xs : List Fl) (s : ByteArray) (f : Fl) : wo (xs ++ [f]) s = if (f.nm.toList == s.toList) = true then wo xs s else wo xs s ++ [f] := by
  unfold wo
  rw [List.filter_append]
  cases h : (f.nm.toList == s.toList) <;> simp [List.filter_cons, h]

/-- A row that the call owns stays owned while nothing from its base on is touched. -/
theorem owns_lit0 (w : World) (t : TypeId) (B : Nat) (hB : B ≤ w.heap.size) : (w.alloc (.cells #[] t)).ownsRow B t 3 (.slice (some ⟨w.heap.size, 0, none⟩) 0 0) 0 (cellsF []) :=
  ⟨rfl, .inr ⟨w.heap.size, 0, #[], rfl, hB, World.heap_alloc_new _ _, Nat.le_refl _, Nat.zero_le _, rfl, rfl⟩⟩

theorem cell_first3 (w : World) (x y z : Value) (t : TypeId) : ∀ j u, [x, y, z][j]? = some u → (w.alloc (.cells #[x, y, z] t)).cell? ((⟨w.heap.size, 0, none⟩ : Addr).add j) = some u := by
  intro j u hj
  rw [Go.WideShapes.add_plain]
  have hb : (w.alloc (.cells #[x, y, z] t)).heap[w.heap.size]? = some (.cells #[x, y, z] t (0, 0)) := World.heap_alloc_new _ _
  simp only [World.cell?, hb]
  match j, hj with
  | 0, hj => simpa using hj
  | 1, hj => simpa using hj
  | 2, hj => simpa using hj

set_option maxRecDepth 100000 in
set_option maxHeartbeats 1000000 in
theorem without_any (a : Option Addr) (cap : Nat) (xs : List Fl) (s : ByteArray) (w : World) (hx : Lie w a xs) (hlen : xs.length ≤ 1048576) :
    Calls Try.prog 34 #[.slice a xs.length cap, .string s] w fun e w' =>
      ∃ a' cap', e = .returned (.slice a' (wo xs s).length cap') ∧ Res w' w.heap.size a' cap' (wo xs s) ∧ Below w.heap.size w w' := by
  obtain ⟨i0, hi, hz0, hz1, hz2⟩ := info_parts iFile_info
  go_enter Try.func34, Try.ntmps34
  go_wp2
  go_loopw [5, 6] (fun v i wr => ∃ k : Nat, k ≤ xs.length ∧ i = .int .i64 k ∧ wr.ownsRow w.heap.size 41 3 v (wo (xs.take k) s).length (cellsF (wo (xs.take k) s)) ∧ Below w.heap.size w wr) (fun _ i _ => xs.length - (intOf i).toNat)
  case atStart => exact ⟨0, Nat.zero_le _, rfl, owns_lit0 w _ _ (Nat.le_refl _), (Below.refl _ _).alloc (Nat.le_refl _) _⟩
  case round =>
    obtain ⟨k, hk, rfl, hown, hb⟩ := hrel
    by_cases hlt : k < xs.length
    · obtain ⟨b, off, rfl, hbl, c0, c1, c2⟩ := (hx.below hb).at hlt
      have HS : Hid (wo (xs.take (k + 1)) s = if ((xs.getD k fl0).nm.toList == s.toList) = true then wo (xs.take k) s else wo (xs.take k) s ++ [xs.getD k fl0]) := by show _ = _; rw [take_snoc xs k hlt, wo_snoc]
      have hwl : (wo (xs.take k) s).length ≤ k := Nat.le_trans (wo_length _ _) (List.length_take_le _ _)
      generalize xs.getD k fl0 = f at *
      have hbs := hb.size
      cases he : (f.nm.toList == s.toList) with
      | true =>
        have HE : Hid (wo (xs.take (k + 1)) s = wo (xs.take k) s) := by show _ = _; rw [HS.out, if_pos he]
        clear HS
        go_wp2
        exact ⟨⟨k + 1, by omega, by go_num, by rw [HE.out]; exact hown, hb⟩, by simp [intOf]; omega⟩
      | false =>
        have HE : Hid (wo (xs.take (k + 1)) s = wo (xs.take k) s ++ [f]) := by show _ = _; rw [HS.out, if_neg (by simp [he])]
        clear HS
        go_wp2_with (at_builtin; refine wpList_append_own _ rfl _ _ 26 rfl w.heap.size 41 i0 _ 3 40 Try.underlying26 hi hz0 hz1 hz2 rfl (by decide) _ _ _ rfl (hown.alloc _) ⟨wr.heap.size, 0, none⟩ 1 1 [.string f.nm, .string f.dt, .int .i64 f.sy] rfl rfl (cell_first3 _ _ _ _ _) (fun x hx => by simp at hx; rcases hx with rfl | rfl | rfl <;> rfl) (by unfold maxLen; omega) (by omega) (by simp; omega) ?_; intro v' w4 hown' hgrow hnil)
        refine ⟨⟨k + 1, by omega, by go_num, ?_, ?_⟩, by simp [intOf]; omega⟩
        · rw [HE.out, cellsF_snoc, List.length_append]; exact hown'
        · exact (hb.alloc hbs _).grown hgrow (by simp; omega) (owns_base hown)
    · obtain rfl : k = xs.length := by omega
      rw [List.take_length] at hown
      obtain ⟨-, a2, cap2, hv, hres⟩ := res_of_owns hown
      subst hv
      go_wp2
      go_ret
      exact ⟨a2, cap2, rfl, hres, hb⟩
end Go.Proofs.Ytlchoaofeaglhad
