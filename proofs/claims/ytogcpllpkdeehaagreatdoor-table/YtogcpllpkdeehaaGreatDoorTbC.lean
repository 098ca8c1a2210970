import Derived.Test.YtogcpllpkdeehaaGreatDoorTbA

namespace Go.Proofs.YtogcpllpkdeehaaGreatDoor
open Go.RowKit Go.Maps
set_option linter.unusedVariables false
set_option linter.unusedSimpArgs false

theorem hdB {p : Prop} (h : p) : Hid p := h
theorem heap_ltB {w : World} {g : Nat} {o : Obj} (h : w.heap[g]? = some o) : g < w.heap.size := by
  by_cases hlt : g < w.heap.size
  · exact hlt
  · rw [Array.getElem?_eq_none (by omega)] at h; cases h
/-- What was there is kept, but for one block. -/
structure Gr (ob : Option Nat) (w w' : World) : Prop where
  os : w'.os = w.os
  tape : w'.tape = w.tape
  output : w'.output = w.output
  size : w.heap.size ≤ w'.heap.size
  block : ∀ k, k < w.heap.size → ob ≠ some k → w'.heap[k]? = w.heap[k]?
theorem Gr.refl (ob : Option Nat) (w : World) : Gr ob w w := ⟨rfl, rfl, rfl, Nat.le_refl _, fun _ _ _ => rfl⟩
theorem Gr.of {ob : Option Nat} {w w' : World} (h : Below w.heap.size w w') : Gr ob w w' := ⟨h.os, h.tape, h.output, h.size, fun k hk _ => h.block k hk⟩
theorem Gr.below {ob : Option Nat} {w w' : World} {B : Nat} (h : Gr ob w w') (ho : ∀ g, ob = some g → B ≤ g) (hB : B ≤ w.heap.size) : Below B w w' :=
  ⟨h.os, h.tape, h.output, h.size, fun k hk => h.block k (by omega) (fun e => by have := ho k e; omega)⟩
theorem owns_keepB {w w' : World} {B n size : Nat} {e : TypeId} {v : Value} {xs : List Value} (h : w.ownsRow B e size v n xs) (hb : ∀ g, v.ownBlock = some g → w'.heap[g]? = w.heap[g]?) : w'.ownsRow B e size v n xs := by
  obtain ⟨h1, h2⟩ := h
  refine ⟨h1, ?_⟩
  rcases h2 with h2 | ⟨g, cap, cur, rfl, hg, hbk, hrest⟩
  · exact .inl h2
  · exact .inr ⟨g, cap, cur, rfl, hg, (hb g rfl).trans hbk, hrest⟩
theorem owns_ltB {w : World} {B n size : Nat} {e : TypeId} {v : Value} {xs : List Value} (h : w.ownsRow B e size v n xs) : ∀ k, v.ownBlock = some k → k < w.heap.size := by
  intro k hk
  rcases h.2 with ⟨rfl, _⟩ | ⟨g, cap, cur, rfl, hg, hb, _⟩
  · cases hk
  · simp [Value.ownBlock] at hk
    subst hk
    exact heap_ltB hb

set_option maxRecDepth 100000 in
set_option maxHeartbeats 1000000 in
/-- l2Put changes its own row alone. -/
theorem l2Put_sep (B : Nat) (v : Value) (l : List UInt8) (s : ByteArray) (w : World) (ho : w.ownsRow B 5 1 v l.length (bc l)) (hB : B ≤ w.heap.size) (hs : l.length + s.size ≤ 70368744177664) :
    Calls Tryz.prog 27 #[v, .string s] w fun e w' => ∃ v', e = .returned v' ∧ w'.ownsRow B 5 1 v' (l ++ s.data.toList).length (bc (l ++ s.data.toList)) ∧ Gr v.ownBlock w w' ∧ (v'.ownBlock = v.ownBlock ∨ ∃ g, v'.ownBlock = some g ∧ w.heap.size ≤ g) := by
  obtain ⟨i0, hi, hz0, hz1, hz2⟩ := info_parts u8_info
  go_enter Tryz.func27, Tryz.ntmps27
  go_wp2_with fail
  go_loopw [0, 5] (fun x y wr => ∃ k : Nat, y = .int .i64 k ∧ k ≤ s.size ∧ wr.ownsRow B 5 1 x (l ++ s.data.toList.take k).length (bc (l ++ s.data.toList.take k)) ∧ Gr v.ownBlock w wr ∧ Hid (x.ownBlock = v.ownBlock ∨ ∃ g, x.ownBlock = some g ∧ w.heap.size ≤ g)) (fun _ y _ => s.size - (intOf y).toNat)
  case atStart => exact ⟨0, rfl, by omega, by simpa using ho, Gr.refl _ _, .inl rfl⟩
  case round =>
    obtain ⟨k, rfl, hk, hown, hb, HX⟩ := hrel
    have hbs := hb.size
    have hll : (l ++ s.data.toList.take k).length = l.length + k := by rw [List.length_append, List.length_take, Array.length_toList]; show _ + min k s.size = _; omega
    by_cases hlt : k < s.size
    · have HT : Hid (l ++ s.data.toList.take (k + 1) = l ++ s.data.toList.take k ++ [s[k]]) := by show _ = _; rw [byteL_at s k hlt, List.append_assoc]
      generalize l ++ s.data.toList.take k = m at *
      go_wp2_with (at_builtin; refine wpList_append_own_at _ rfl _ _ 22 rfl B 5 i0 (.int .u8 0) 1 1 Tryz.underlying22 hi hz0 hz1 hz2 rfl (by decide) _ _ _ rfl (hown.alloc _) ⟨wr.heap.size, 0, none⟩ 1 1 [.int .u8 (s[k].toNat : Int)] rfl rfl (cell_one_new _ _ _) (fun x hx => by simp at hx; subst hx; rfl) (by unfold maxLen; omega) (by omega) (by simp; omega) ?_; intro v' w4 hown' hgrow hnil hat)
      have hG : Gr v.ownBlock w w4 := ⟨hgrow.os.trans hb.os, hgrow.tape.trans hb.tape, hgrow.output.trans hb.output, Nat.le_trans hbs (Nat.le_trans (by simp) hgrow.size), fun g hg hne => by
        refine (hgrow.block g (by simp; omega) (fun e => ?_)).trans ((Below.heap_alloc _ _ _ (by omega)).trans (hb.block g hg hne))
        rcases HX.out with h | ⟨g', h, hg'⟩
        · exact hne (h.symm.trans e.symm)
        · have e2 := e.trans h
          cases e2
          omega⟩
      have hX' : v'.ownBlock = v.ownBlock ∨ ∃ g, v'.ownBlock = some g ∧ w.heap.size ≤ g := by
        rcases hat with h | h
        · rcases HX.out with h2 | ⟨g, h2, h3⟩
          · exact .inl (h.trans h2)
          · exact .inr ⟨g, h.trans h2, h3⟩
        · exact .inr ⟨_, h, by simp; omega⟩
      refine ⟨⟨k + 1, by simp, by omega, ?_, hG, hX'⟩, by simp only [intOf]; omega⟩
      rw [HT.out]
      have e : bc (m ++ [s[k]]) = bc m ++ [Value.int .u8 (s[k].toNat : Int)] := by simp [bc]
      rw [e, List.length_append]
      exact hown'
    · obtain rfl : k = s.size := by omega
      have e : s.data.toList.take s.size = s.data.toList := List.take_of_length_le (by rw [Array.length_toList]; exact Nat.le_refl _)
      rw [e] at hown
      go_wp2_with fail
      go_ret
      exact ⟨_, rfl, hown, hb, HX.out⟩
end Go.Proofs.YtogcpllpkdeehaaGreatDoor
