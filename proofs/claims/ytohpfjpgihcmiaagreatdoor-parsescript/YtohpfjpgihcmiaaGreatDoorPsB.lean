import Derived.Test.YtohpfjpgihcmiaaGreatDoorPsA

import Derived.OwnWalk
namespace Go.Proofs.YtohpfjpgihcmiaaGreatDoor
open Go.RowKit Go.Maps
set_option linter.unusedVariables false
set_option linter.unusedSimpArgs false

theorem heap_ltP {w : World} {g : Nat} {o : Obj} (h : w.heap[g]? = some o) : g < w.heap.size := by
  by_cases hl : g < w.heap.size
  · exact hl
  · rw [Array.getElem?_eq_none (by omega)] at h; cases h
theorem alloc_newP (w : World) (o : Obj) : (w.alloc o).heap[w.heap.size]? = some o := by
  show (w.heap.push o)[w.heap.size]? = _
  simp

theorem owns_baseP {w : World} {B n size : Nat} {e : TypeId} {v : Value} {xs : List Value} (h : w.ownsRow B e size v n xs) : ∀ k, v.ownBlock = some k → B ≤ k := by
  intro k hk
  rcases h.2 with ⟨rfl, _⟩ | ⟨g, cap, cur, rfl, hg, _⟩
  · cases hk
  · simp [Value.ownBlock] at hk
    omega
theorem owns_belowP {w w' : World} {B n size : Nat} {e : TypeId} {v : Value} {xs : List Value} (h : w.ownsRow B e size v n xs) (hb : Below w.heap.size w w') : w'.ownsRow B e size v n xs := by
  obtain ⟨h1, h2⟩ := h
  refine ⟨h1, ?_⟩
  rcases h2 with h2 | ⟨g, cap, cur, rfl, hg, hbk, hrest⟩
  · exact .inl h2
  · exact .inr ⟨g, cap, cur, rfl, hg, (hb.block g (heap_ltP hbk)).trans hbk, hrest⟩
theorem str_infoP : (Tryz.prog.info? 9).map (fun i => (i.zero, i.size, i.bytes)) = some (some (.string ByteArray.empty), 1, 16) := by kernel_rfl
theorem cell_firstP (w : World) (x : Value) (t : TypeId) : ∀ j u, [x][j]? = some u → (w.alloc (.cells #[x] t)).cell? ((⟨w.heap.size, 0, none⟩ : Addr).add j) = some u := by
  intro j u hj
  rw [Go.WideShapes.add_plain]
  have hb : (w.alloc (.cells #[x] t)).heap[w.heap.size]? = some (.cells #[x] t (0, 0)) := alloc_newP _ _
  simp only [World.cell?, hb]
  match j, hj with
  | 0, hj => simpa using hj
/-- A row of texts. -/
def LieP (w : World) (a : Option Addr) (xs : List ByteArray) : Prop :=
  xs = [] ∨ ∃ b off, a = some ⟨b, off, none⟩ ∧ b < w.heap.size ∧ ∀ i, i < xs.length → w.cell? ⟨b, off + i, none⟩ = some (.string (xs.getD i ByteArray.empty))
theorem LieP.below {w w' : World} {a : Option Addr} {xs : List ByteArray} (h : LieP w a xs) (hb : Below w.heap.size w w') : LieP w' a xs := by
  rcases h with rfl | ⟨b, off, rfl, hlt, hc⟩
  · exact .inl rfl
  · exact .inr ⟨b, off, rfl, Nat.lt_of_lt_of_le hlt hb.size, fun i hi => (hb.cell (p := ⟨b, _, none⟩) hlt).trans (hc i hi)⟩
theorem LieP.tail {w : World} {b off : Nat} {x : ByteArray} {xs : List ByteArray} (h : LieP w (some ⟨b, off, none⟩) (x :: xs)) : LieP w (some ⟨b, off + 1, none⟩) xs := by
  rcases h with h | ⟨b', off', e, hlt, hc⟩
  · cases h
  · cases e
    exact .inr ⟨b, off + 1, rfl, hlt, fun i hi => by have := hc (i + 1) (by simpa using hi); rw [show off + 1 + i = off + (i + 1) by omega]; simpa using this⟩
theorem LieP.init {w : World} {a : Option Addr} {xs ys : List ByteArray} (h : LieP w a (xs ++ ys)) : LieP w a xs := by
  rcases h with h | ⟨b, off, rfl, hlt, hc⟩
  · exact .inl (List.append_eq_nil_iff.1 h).1
  · refine .inr ⟨b, off, rfl, hlt, fun i hi => ?_⟩
    have := hc i (by simp; omega)
    rw [List.getD_eq_getElem?_getD, List.getElem?_append_left hi] at this
    rwa [List.getD_eq_getElem?_getD]
def cellsP (xs : List ByteArray) : List Value := xs.map .string
theorem cellsP_snoc (xs : List ByteArray) (x : ByteArray) : cellsP (xs ++ [x]) = cellsP xs ++ [.string x] := by simp [cellsP]
theorem lieP_of_owns {w : World} {B n : Nat} {v : Value} {xs : List ByteArray} (h : w.ownsRow B 9 1 v n (cellsP xs)) : ∃ a cap, v = .slice a xs.length cap ∧ xs.length ≤ cap ∧ LieP w a xs := by
  obtain ⟨h1, h2⟩ := h
  have hn : n = xs.length := by simp [cellsP] at h1; omega
  subst hn
  rcases h2 with ⟨rfl, h⟩ | ⟨g, cap, cur, rfl, hg, hh, hle, hm, hs, ht⟩
  · have hk : xs = [] := List.eq_nil_of_length_eq_zero h
    subst hk
    exact ⟨none, 0, rfl, Nat.le_refl _, .inl rfl⟩
  · refine ⟨_, cap, rfl, by omega, .inr ⟨g, 0, rfl, heap_ltP hh, fun i hi => ?_⟩⟩
    have e : (cellsP xs)[i]? = some (.string (xs.getD i ByteArray.empty)) := by
      simp [cellsP, List.getD_eq_getElem?_getD, List.getElem?_eq_getElem hi]
    rw [← ht, List.getElem?_take_of_lt (by omega)] at e
    simp only [World.cell?, hh]
    simpa using e
theorem ownsP_lit (w : World) (B : Nat) (hB : B ≤ w.heap.size) : (w.alloc (.cells #[] 9)).ownsRow B 9 1 (.slice (some ⟨w.heap.size, 0, none⟩) 0 0) 0 (cellsP []) :=
  ⟨rfl, .inr ⟨w.heap.size, 0, #[], rfl, hB, alloc_newP _ _, Nat.le_refl _, Nat.zero_le _, rfl, rfl⟩⟩
theorem lieP_split (w : World) (xs : List ByteArray) : LieP (w.alloc (.cells ((xs.map Value.string).toArray) 9)) (some ⟨w.heap.size, 0, none⟩) xs := by
  refine .inr ⟨_, 0, rfl, by simp, fun i hi => ?_⟩
  have hb : (w.alloc (.cells ((xs.map Value.string).toArray) 9)).heap[w.heap.size]? = some (.cells ((xs.map Value.string).toArray) 9 (0, 0)) := alloc_newP _ _
  simp only [World.cell?, hb]
  simp [List.getD_eq_getElem?_getD, List.getElem?_eq_getElem hi]
theorem extract_listP (s : ByteArray) (f i : Nat) : (s.extract f i).data.toList = (s.data.toList.take i).drop f := by
  simp [ByteArray.data_extract, List.extract_eq_take_drop, List.drop_take]
theorem cut_size (b : UInt8) (s p : ByteArray) (h : p ∈ cutB b s) : p.size ≤ s.size := by
  have key : ∀ (l : List UInt8) (x : List UInt8), x ∈ cutL b l → x.length ≤ l.length := by
    intro l
    induction l with
    | nil => intro x hx; simp [cutL] at hx; subst hx; simp
    | cons c r ih =>
      intro x hx
      have hne := cutL_ne b r
      unfold cutL at hx
      split at hx
      · rcases List.mem_cons.1 hx with rfl | hx
        · simp
        · have := ih x hx; simp; omega
      · rcases List.mem_cons.1 hx with rfl | hx
        · cases hh : cutL b r with
          | nil => exact absurd hh hne
          | cons q qs => have := ih q (by rw [hh]; simp); simp; omega
        · have := ih x (List.mem_of_mem_tail hx); simp; omega
  unfold cutB at h
  obtain ⟨l, hl, rfl⟩ := List.mem_map.1 h
  have := key _ _ hl
  show l.toArray.size ≤ _
  rw [List.size_toArray]
  have e : s.data.toList.length = s.size := by rw [Array.length_toList]; rfl
  omega
theorem cutB_end (b : UInt8) (s : ByteArray) (ps : List ByteArray) (f : Nat) (h : cst b (s.data.toList.take s.size) = (ps.map (fun t => t.data.toList), (s.data.toList.take s.size).drop f)) : cutB b s = ps ++ [s.extract f s.size] := by
  have hlen : s.data.toList.length = s.size := by rw [Array.length_toList]; rfl
  have ht : s.data.toList.take s.size = s.data.toList := by rw [← hlen]; exact List.take_length
  rw [ht] at h
  unfold cutB
  rw [cutL_cst, h]
  simp only [List.map_append, List.map_map, List.map_cons, List.map_nil]
  have e1 : ((fun l : List UInt8 => (⟨l.toArray⟩ : ByteArray)) ∘ fun t : ByteArray => t.data.toList) = id := by
    funext t
    cases t
    simp
  rw [e1, List.map_id]
  congr 2
  apply ByteArray.ext
  apply Array.toList_inj.1
  rw [extract_listP, ht]
theorem cutB_len (b : UInt8) (s : ByteArray) : (cutB b s).length ≤ s.size + 1 := by
  rw [← cutB_count]
  have : Lib.countB s ⟨#[b]⟩ = Lib.count s.data.toList [b] := rfl
  rw [this, Lib.count_one]
  have e : s.data.toList.length = s.size := by rw [Array.length_toList]; rfl
  have := List.count_le_length (a := b) (l := s.data.toList)
  omega

set_option maxRecDepth 100000 in
set_option maxHeartbeats 1000000 in
theorem l7Cut_any (s : ByteArray) (b : UInt8) (w : World) (hs : s.size ≤ 1048576) :
    Calls Tryz.prog 20 #[.string s, .int .u8 (b.toNat : Int)] w fun e w' => ∃ a cap, e = .returned (.slice a (cutB b s).length cap) ∧ (cutB b s).length ≤ cap ∧ LieP w' a (cutB b s) ∧ Below w.heap.size w w' := by
  obtain ⟨i0, hi, hz0, hz1, hz2⟩ := info_parts str_infoP
  have HE := hdN (cutB_end b s)
  have hlen : s.data.toList.length = s.size := by rw [Array.length_toList]; rfl
  generalize hCC : cutB b s = C at *
  clear hCC
  have hbl := b.toNat_lt
  go_enter Tryz.func20, Tryz.ntmps20
  go_wp2_with fail
  go_loopw [5, 6, 7] (fun v f i wr => ∃ (k fr : Nat) (xs : List ByteArray), fr ≤ k ∧ k ≤ s.size ∧ xs.length ≤ k ∧ f = .int .i64 fr ∧ i = .int .i64 k ∧ Hid (cst b (s.data.toList.take k) = (xs.map (fun t => t.data.toList), (s.data.toList.take k).drop fr)) ∧ wr.ownsRow w.heap.size 9 1 v xs.length (cellsP xs) ∧ Below w.heap.size w wr) (fun _ _ i _ => s.size - (intOf i).toNat)
  case atStart => exact ⟨0, 0, [], Nat.le_refl _, Nat.zero_le _, Nat.le_refl _, rfl, rfl, rfl, ownsP_lit _ _ (Nat.le_refl _), (Below.refl _ _).alloc (Nat.le_refl _) _⟩
  case round =>
    obtain ⟨k, fr, xs, hf, hk, hxl, rfl, rfl, HS, hown, hb⟩ := hrel
    have hbs := hb.size
    have f0 : (0 : Int) ≤ fr := by omega
    have fk : (fr : Int) ≤ k := by omega
    have ks : (k : Int) ≤ s.size := by omega
    by_cases hlt : k < s.size
    · have hlt' : (k : Int) < (s.size : Int) := by omega
      have hbd := bget_data s k hlt
      have HT : Hid (s.data.toList.take (k + 1) = s.data.toList.take k ++ [s.data.toList.getD k 0]) := by
        show _ = _
        rw [List.take_succ_eq_append_getElem (by rw [hlen]; exact hlt)]
        simp [List.getD, hlen, hlt]
      have HS2 : Hid (cst b (s.data.toList.take (k + 1)) = cstp b (xs.map (fun t => t.data.toList), (s.data.toList.take k).drop fr) (s.data.toList.getD k 0)) := by
        show _ = _
        rw [HT.out, cst_snoc, HS.out]
      have HD : Hid (fr ≤ (s.data.toList.take k).length) := by show _ ≤ _; rw [List.length_take]; omega
      generalize s.data.toList.getD k 0 = c at *
      by_cases hc : c = b
      · subst hc
        have HC := hdN (cell_firstP wr (.string (s.extract fr k)) 9)
        have HX := hdN (extract_listP s fr k)
        have ho := hown
        have HBs : Hid (w.heap.size ≤ (wr.alloc (.cells #[.string (s.extract fr k)] 9)).heap.size) := by show _ ≤ _; simp; omega
        go_wp2_with (at_builtin; refine wpList_append_own _ rfl _ _ 30 rfl w.heap.size 9 i0 _ 1 16 Tryz.underlying30 hi hz0 hz1 hz2 rfl (by decide) _ _ _ rfl (hown.alloc _) ⟨wr.heap.size, 0, none⟩ 1 1 [.string (s.extract fr k)] rfl rfl HC.out (fun x hx => by simp at hx; subst hx; rfl) (by unfold maxLen; omega) (by omega) HBs.out ?_; intro v' w8 hown8 hgrow hnil)
        refine ⟨⟨k + 1, k + 1, xs ++ [s.extract fr k], Nat.le_refl _, by omega, by simp; omega, by go_num, by go_num, ?_, ?_, ?_⟩, by simp only [intOf]; omega⟩
        · show _ = _
          rw [HS2.out]
          unfold cstp
          rw [if_pos rfl]
          simp only [List.map_append, List.map_cons, List.map_nil, HX.out]
          congr 1
          rw [List.drop_of_length_le (by rw [List.length_take]; omega)]
        · rw [cellsP_snoc, List.length_append]; exact hown8
        · exact (hb.alloc (by omega) _).grown hgrow HBs.out (owns_baseP ho)
      · have hc' : ¬ (c.toNat : Int) = (b.toNat : Int) := fun h => hc (UInt8.toNat_inj.1 (by omega))
        go_wp2_with fail
        refine ⟨⟨k + 1, fr, xs, by omega, by omega, by omega, rfl, by go_num, ?_, hown, hb⟩, by simp only [intOf]; omega⟩
        show _ = _
        rw [HS2.out]
        unfold cstp
        rw [if_neg hc, HT.out]
        simp only
        rw [List.drop_append_of_le_length HD.out]
    · obtain rfl : k = s.size := by omega
      have hik : ¬ (s.size : Int) < (s.size : Int) := by omega
      have HC := hdN (cell_firstP wr (.string (s.extract fr s.size)) 9)
      have hCe := HE.out xs fr HS.out
      subst hCe
      have ho := hown
      have HBs : Hid (w.heap.size ≤ (wr.alloc (.cells #[.string (s.extract fr s.size)] 9)).heap.size) := by show _ ≤ _; simp; omega
      clear HE
      go_wp2_with (at_builtin; refine wpList_append_own _ rfl _ _ 30 rfl w.heap.size 9 i0 _ 1 16 Tryz.underlying30 hi hz0 hz1 hz2 rfl (by decide) _ _ _ rfl (hown.alloc _) ⟨wr.heap.size, 0, none⟩ 1 1 [.string (s.extract fr s.size)] rfl rfl HC.out (fun x hx => by simp at hx; subst hx; rfl) (by unfold maxLen; omega) (by omega) HBs.out ?_; intro v' w8 hown8 hgrow hnil)
      have hown9 : w8.ownsRow w.heap.size 9 1 v' (xs.length + 1) (cellsP (xs ++ [s.extract fr s.size])) := by rw [cellsP_snoc]; exact hown8
      obtain ⟨a', cap', rfl, hcp, hlie⟩ := lieP_of_owns hown9
      go_ret
      exact ⟨a', cap', by first | rfl | simp, by simpa using hcp, hlie, (hb.alloc (by omega) _).grown hgrow HBs.out (owns_baseP ho)⟩

/-- The lines of a script: a break at the end ends the last one. -/
def lnB (s : ByteArray) : List ByteArray := if (cutB 10 s).getLast? = some ByteArray.empty then (cutB 10 s).dropLast else cutB 10 s
theorem size0P {s : ByteArray} (h : s.size = 0) : s = ByteArray.empty := by
  cases s with
  | mk d => congr; exact Array.eq_empty_of_size_eq_zero h
set_option maxRecDepth 100000 in
set_option maxHeartbeats 1000000 in
theorem l7Lines_any (s : ByteArray) (w : World) (hs : s.size ≤ 1048576) :
    Calls Tryz.prog 9 #[.string s] w fun e w' => ∃ a cap, e = .returned (.slice a (lnB s).length cap) ∧ LieP w' a (lnB s) ∧ Below w.heap.size w w' := by
  have HC := hdN (l7Cut_any s 10 w hs)
  have hne : cutB 10 s ≠ [] := by unfold cutB; simp [cutL_ne]
  have hcl := cutB_len 10 s
  have HL : Hid (lnB s = if (cutB 10 s).getLast? = some ByteArray.empty then (cutB 10 s).dropLast else cutB 10 s) := rfl
  have HZ : Hid (∀ p ∈ cutB 10 s, p.size ≤ s.size) := cut_size 10 s
  generalize lnB s = L at *
  generalize cutB 10 s = C at *
  have hcp : 0 < C.length := List.length_pos_iff.2 hne
  have el : C.getLast? = some (C.getD (C.length - 1) ByteArray.empty) := by
    rw [List.getLast?_eq_getElem?, List.getElem?_eq_getElem (by omega)]
    simp [List.getD_eq_getElem?_getD, List.getElem?_eq_getElem (show C.length - 1 < C.length by omega)]
  have hz := HZ.out (C.getD (C.length - 1) ByteArray.empty) (by
    have : C.getD (C.length - 1) ByteArray.empty = C[C.length - 1] := by simp [List.getD_eq_getElem?_getD, List.getElem?_eq_getElem (show C.length - 1 < C.length by omega)]
    rw [this]; exact List.getElem_mem _)
  have c1 : (0 : Int) ≤ (C.length : Int) - 1 := by omega
  have c2 : (C.length : Int) - 1 < C.length := by omega
  have c3 : ((C.length : Int) - 1).toNat = C.length - 1 := by omega
  have c4 : wrap64 ((C.length : Int) - 1) = (C.length : Int) - 1 := by unfold wrap64; omega
  have HC2 : Hid (Calls Tryz.prog 20 #[.string s, .int .u8 10] w fun e w' => ∃ b off cap, e = .returned (.slice (some ⟨b, off, none⟩) C.length cap) ∧ C.length ≤ cap ∧ w'.cell? ⟨b, off + (C.length - 1), none⟩ = some (.string (C.getD (C.length - 1) ByteArray.empty)) ∧ LieP w' (some ⟨b, off, none⟩) C ∧ LieP w' (some ⟨b, off, none⟩) C.dropLast ∧ Below w.heap.size w w') := by
    refine HC.out.mono ?_
    rintro e w1 ⟨a, cap, rfl, hcap, hlie, hb⟩
    have hl2 := hlie
    rcases hlie with h | ⟨b, off, rfl, hbl, hc⟩
    · exact absurd h hne
    · refine ⟨b, off, cap, rfl, hcap, hc _ (by omega), hl2, ?_, hb⟩
      have e : C = C.dropLast ++ [C.getLast hne] := (List.dropLast_concat_getLast hne).symm
      rw [e] at hl2
      exact hl2.init
  by_cases h0 : (C.getD (C.length - 1) ByteArray.empty).size = 0
  · have hL : L = C.dropLast := by rw [HL.out, el, size0P h0, if_pos rfl]
    subst hL
    have hdl : C.dropLast.length = C.length - 1 := by simp
    rw [hdl]
    generalize C.getD (C.length - 1) ByteArray.empty = T at *
    clear HL el HZ HC hdl hne
    generalize C.dropLast = D at *
    have hlt : C.length - 1 ≤ C.length := by omega
    generalize hln : C.length = len at *
    go_enter Tryz.func9, Tryz.ntmps9
    go_wp2_with fail
    refine HC2.out.mono ?_
    rintro e w1 ⟨b, off, cap, rfl, hcap, hlast, hl2, hl3, hb⟩
    go_wp2_with fail
    go_ret
    exact ⟨_, _, rfl, hl3, hb⟩
  · have hL : L = C := by
      rw [HL.out, el, if_neg]
      intro h
      injection h with h
      rw [h] at h0
      exact h0 rfl
    subst hL
    have h0' : ¬ ((L.getD (L.length - 1) ByteArray.empty).size : Int) = 0 := by omega
    generalize L.getD (L.length - 1) ByteArray.empty = T at *
    clear HL el HZ HC hne
    generalize hln : L.length = len at *
    go_enter Tryz.func9, Tryz.ntmps9
    go_wp2_with fail
    refine HC2.out.mono ?_
    rintro e w1 ⟨b, off, cap, rfl, hcap, hlast, hl2, hl3, hb⟩
    go_wp2_with fail
    go_ret
    exact ⟨_, _, rfl, hl2, hb⟩
end Go.Proofs.YtohpfjpgihcmiaaGreatDoor
