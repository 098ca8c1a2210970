import Derived.Test.YtohpfjpgihcmiaaGreatDoorPsP

namespace Go.Proofs.YtohpfjpgihcmiaaGreatDoor
open Go.RowKit Go.Maps
set_option linter.unusedVariables false
set_option linter.unusedSimpArgs false

theorem takeD (r : List ByteArray) (k : Nat) (h : k < r.length) : r.take (k + 1) = r.take k ++ [r.getD k ByteArray.empty] := by
  rw [List.take_add_one, List.getElem?_eq_getElem h]
  simp [List.getD, h]
theorem mapM_none {α β : Type} (f : α → Option β) {xs : List α} {x : α} (hx : x ∈ xs) (h : f x = none) : xs.mapM f = none := by
  have e := mapM_any f xs
  have : (xs.any fun x => (f x).isNone) = true := List.any_eq_true.2 ⟨x, hx, by rw [h]; rfl⟩
  rw [this] at e
  cases hm : xs.mapM f with
  | none => rfl
  | some v => rw [hm] at e; cases e
theorem getD_memP {r : List ByteArray} {k : Nat} (h : k < r.length) : r.getD k ByteArray.empty ∈ r := by
  rw [List.getD_eq_getElem?_getD, List.getElem?_eq_getElem h]
  simp
theorem opR_5 (k : Int) (r : List ByteArray) : opR 5 k r = (r.mapM nuM).map fun ks => ⟨k, ⟨#[]⟩, ⟨#[]⟩, 0, [], ks⟩ := by cases r <;> rfl
theorem opR_6 (k : Int) (r : List ByteArray) : opR 6 k r = if r = [] then none else (r.mapM itO).map fun bs => ⟨k, ⟨#[]⟩, ⟨#[]⟩, 0, bs, []⟩ := by
  cases r with
  | nil => rfl
  | cons x r => rw [if_neg (by simp)]; rfl
set_option maxRecDepth 100000 in
set_option maxHeartbeats 16000000 in
theorem l7Op_5 (s : ByteArray) (w : World) (hs : s.size ≤ 1048576) (hi : kI (hd0 (cutB 32 s)) < 17 ∧ kS.getD (kI (hd0 (cutB 32 s))) 0 = 5) :
    Calls Tryz.prog 12 #[.string s] w fun e w' => ∃ (o : OpV) (ba bk : Value), e = .returned (.tuple #[opA o ba bk, .bool (opM s).isSome]) ∧ (∀ v, opM s = some v → o = v ∧ RowsO w' w.heap.size ba bk o) ∧ Below w.heap.size w w' ∧ (∃ a n c, ba = .slice a n c) ∧ (∃ a n c, bk = .slice a n c) := by
  have hb0 : Below w.heap.size w (w.alloc (.cells #[.int .i64 0, .string ⟨#[]⟩, .string ⟨#[]⟩, .int .i64 0, .slice none 0 0, .slice none 0 0] 38)) := (Below.refl _ _).alloc (Nat.le_refl _) _
  have hR0 : OpC (w.alloc (.cells #[.int .i64 0, .string ⟨#[]⟩, .string ⟨#[]⟩, .int .i64 0, .slice none 0 0, .slice none 0 0] 38)) w.heap.size 0 ⟨#[]⟩ ⟨#[]⟩ 0 (.slice none 0 0) (.slice none 0 0) := World.heap_alloc_new _ _
  have HC := hdN (fun (w' : World) => l7Cut_any s 32 w' hs)
  have HZ := hdN (cut_sizes 32 s hs)
  have HL : Hid ((cutB 32 s).length ≤ 1048577) := by have := cutB_len 32 s; show _ ≤ _; omega
  have hne : cutB 32 s ≠ [] := by unfold cutB; simp [cutL_ne]
  have HM : Hid (opM s = if kI (hd0 (cutB 32 s)) < 17 then opR (kS.getD (kI (hd0 (cutB 32 s))) 0) ((kI (hd0 (cutB 32 s)) : Int) + 1) (cutB 32 s).tail else none) := rfl
  generalize cutB 32 s = ps at *
  generalize opM s = res at *
  cases ps with
  | nil => exact absurd rfl hne
  | cons x r =>
    clear hne
    have HK := hdN (fun (w' : World) => l7Kind_any x w' (HZ.out x (by simp)))
    simp only [hd0, List.headD_cons, List.tail_cons, List.length_cons] at *
    have hs0 := size_alloc w (.cells #[.int .i64 0, .string ⟨#[]⟩, .string ⟨#[]⟩, .int .i64 0, .slice none 0 0, .slice none 0 0] 38)
    have HI := hdN hi
    clear hi
    go_enter Tryz.func12, Tryz.ntmps12
    go_wp2_with fail
    refine (HC.out _).mono ?_
    rintro e w1 ⟨a, cap, rfl, hcap, hl1, hb1⟩
    have hs1 : w.heap.size + 1 ≤ w1.heap.size := by have := hb1.size; omega
    rw [hs0] at hb1
    have hR1 : OpC w1 w.heap.size _ _ _ _ _ _ := (hb1.block w.heap.size (by omega)).trans hR0
    have hbw1 : Below w.heap.size w w1 := hb0.trans (hb1.mono (by omega))
    have hl0 := hl1
    rcases hl1 with h | ⟨b, off, rfl, hbl, hc⟩
    · cases h
    have hlt := hl0.tail
    clear hl0
    have hc0 : w1.cell? ⟨b, off, none⟩ = some (.string x) := hc 0 (by simp)
    clear hc HC hb0 hR0 hs0
    go_wp2_with fail
    refine (HK.out _).mono ?_
    rintro e w2 ⟨rfl, hb2⟩
    have hR2 : OpC w2 w.heap.size _ _ _ _ _ _ := (hb2.block w.heap.size (by have := heap_ltP hR1; omega)).trans hR1
    have hbw2 : Below w.heap.size w w2 := hbw1.trans (hb2.mono hbw1.size)
    have hlt2 := hlt.below hb2
    have hs2 := hb2.size
    clear HK hlt hR1 hbw1 hb2 hb1 hc0
    have HM1 : Hid (res = opR (kS.getD (kI x) 0) ((kI x : Int) + 1) r) := HM.out.trans (if_pos HI.out.1)
    rw [kdT_lt HI.out.1]
    have hi2 := HI.out.2
    generalize kS.getD (kI x) 0 = c at *
    have hK0 : ¬ ((kI x : Int) + 1 = 0) := by omega
    generalize (kI x : Int) + 1 = K at *
    have hKb : (K == 0) = false := by simpa using hK0
    clear HM HI
    obtain ⟨j0, ji, jz0, jz1, jz2⟩ := info_parts int_info
    subst hi2
    have HM3 := hdN (HM1.out.trans (opR_5 K r))
    have hsh : shB 5 = ⟨#[42]⟩ := rfl
    rw [hsh]
    clear HM1 hsh
    go_upto_region 5 with fail
    obtain ⟨off2, hoff, hl2⟩ : ∃ off2, (if cap = 1 then (some ⟨b, off, none⟩ : Option Addr) else some ⟨b, off + 1, none⟩) = some ⟨b, off2, none⟩ ∧ LieP w2 (some ⟨b, off2, none⟩) r := by
      by_cases h1 : cap = 1
      · exact ⟨off, if_pos h1, .inl (List.eq_nil_of_length_eq_zero (by omega))⟩
      · exact ⟨off + 1, if_neg h1, hlt2⟩
    have hb3 : Below w2.heap.size w2 (w2.alloc (.cells #[.int .i64 K, .string ⟨#[]⟩, .string ⟨#[]⟩, .int .i64 0, .slice none 0 0, .slice none 0 0] 38)) := (Below.refl _ _).alloc (Nat.le_refl _) _
    have hP : OpS w (w2.alloc (.cells #[.int .i64 K, .string ⟨#[]⟩, .string ⟨#[]⟩, .int .i64 0, .slice none 0 0, .slice none 0 0] 38)) w.heap.size w2.heap.size b off2 r (w2.heap.size + 1) K 0 (.slice none 0 0) (.slice none 0 0) :=
      ⟨hbw2.trans (hb3.mono hbw2.size), (hb3.block _ (heap_ltP hR2)).trans hR2, World.heap_alloc_new _ _, hl2.below hb3, by rw [size_alloc]; omega, by omega, by omega, by omega⟩
    have hRS : w.heap.size ≠ w2.heap.size := by omega
    have hbS : b ≠ w2.heap.size := by omega
    have hwS : w.heap.size ≤ w2.heap.size := by omega
    clear hb3 hlt2 hl2 hbw2 hR2
    rw [hoff]
    have HP := hdN hP
    clear hP hoff hcap
    generalize w2.alloc (.cells #[.int .i64 K, .string ⟨#[]⟩, .string ⟨#[]⟩, .int .i64 0, .slice none 0 0, .slice none 0 0] 38) = W3 at *
    generalize w2.heap.size = S at *
    have hrl : r.length ≤ 1048576 := by have := HL.out; omega
    have hB3 := HP.out.hB
    have hwB : w.heap.size ≤ S + 1 := by omega
    go_wp2_with fail
    go_loopw [9] (fun v9 W => ∃ (k : Nat) (ks : List Int) (u : Value), v9 = .int .i64 (k : Int) ∧ k ≤ r.length ∧ Hid (ks.length = k) ∧ Hid ((r.take k).mapM nuM = some ks) ∧ Hid (OpS w W w.heap.size S b off2 r (S + 1) K 0 (.slice none 0 0) u) ∧ Hid (W.ownsRow (S + 1) 3 1 u ks.length (ic ks))) (fun v9 _ => r.length - (intOf v9).toNat)
    case atStart => exact ⟨0, [], .slice none 0 0, rfl, Nat.zero_le _, rfl, rfl, HP, ownsNil _ _ _ _⟩
    case round =>
      clear HP
      obtain ⟨k, ks, u, rfl, hk, HKL, HF, HP, HO⟩ := hrel
      obtain ⟨au, cu, hu⟩ := owns_slice HO.out
      rw [HKL.out] at hu
      subst hu
      by_cases hlt : k < r.length
      · have hlt' : (k : Int) < (r.length : Int) := by omega
        have hc : wr.cell? ⟨b, off2 + k, none⟩ = some (.string (r.getD k ByteArray.empty)) := by
          rcases HP.out.hl with h | ⟨b', off', e, hlt2, hcc⟩
          · rw [h] at hlt; simp at hlt
          · cases e
            exact hcc k hlt
        have hbw : b < wr.heap.size := Nat.lt_of_lt_of_le HP.out.hbB HP.out.hB
        have HXZ : Hid ((r.getD k ByteArray.empty).size ≤ 1048576) := HZ.out _ (List.mem_cons_of_mem _ (getD_memP hlt))
        have HIN := hdN (getD_memP hlt)
        have HTK := hdN (takeD r k hlt)
        generalize r.getD k ByteArray.empty = y at *
        have HN := hdN (l7Num_any y wr HXZ.out)
        go_wp2_with fail
        refine HN.out.mono ?_
        rintro e w5 ⟨m, rfl, hm, hb5⟩
        have HP5 := hdN (HP.out.below hb5)
        have HO5 := hdN (owns_below HO.out hb5)
        have HMM := hdN hm
        clear hm HN hb5 hc
        obtain ⟨x0, x1, x2, x3, x4, x5⟩ := six_cells HP5.out.hR
        obtain ⟨z0, z1, z2, z3, z4, z5⟩ := six_free HP5.out.hR
        obtain ⟨y0, y1, y2, y3, y4, y5⟩ := six_cells HP5.out.hS
        obtain ⟨t0, t1, t2, t3, t4, t5⟩ := six_free HP5.out.hS
        have hlR5 := heap_ltP HP5.out.hR
        have hlS5 := heap_ltP HP5.out.hS
        cases hny : nuM y with
        | none =>
          have HM2 : Hid (res = none) := by
            show _ = _
            rw [HM3.out, mapM_none nuM HIN.out hny]; rfl
          go_wp2_with fail
          obtain ⟨f1, f2, f3⟩ := HP5.out.fin (.int .i64 K) (.string ⟨#[]⟩) (.string ⟨#[]⟩) (.int .i64 0) (.slice none 0 0) (.slice au k cu)
          clear x0 x1 x2 x3 x4 x5 z0 z1 z2 z3 z4 z5 y0 y1 y2 y3 y4 y5 t0 t1 t2 t3 t4 t5
          generalize ((((((w5.setCell ⟨w.heap.size, 0, none⟩ (.int .i64 K)).setCell ⟨w.heap.size, 1, none⟩ (.string ⟨#[]⟩)).setCell ⟨w.heap.size, 2, none⟩ (.string ⟨#[]⟩)).setCell ⟨w.heap.size, 3, none⟩ (.int .i64 0)).setCell ⟨w.heap.size, 4, none⟩ (.slice none 0 0)).setCell ⟨w.heap.size, 5, none⟩ (.slice au k cu)) = WF at *
          obtain ⟨x0, x1, x2, x3, x4, x5⟩ := six_cells f2
          refine bodyPost_ret (v := .tuple #[.agg #[.int .i64 K, .string ⟨#[]⟩, .string ⟨#[]⟩, .int .i64 0, .slice none 0 0, .slice au k cu], .bool false]) (by simp [results, Tryz.results12, go_sem, x0, x1, x2, x3, x4, x5]) rfl ⟨⟨K, ⟨#[]⟩, ⟨#[]⟩, 0, [], []⟩, (.slice none 0 0), (.slice au k cu), ?_, ?_, f1, ⟨_, _, _, rfl⟩, ⟨_, _, _, rfl⟩⟩
          · rw [HM2.out]; rfl
          · intro v hv
            rw [HM2.out] at hv; cases hv
        | some v =>
          obtain rfl := HMM.out v hny
          have HF6 : Hid ((r.take (k + 1)).mapM nuM = some (ks ++ [m])) := by
            show _ = _
            rw [HTK.out]
            exact mapM_snocS nuM _ _ _ _ HF.out hny
          have hB5 := HP5.out.hB
          have HO6 := HO5
          rw [HKL.out] at HO6
          clear x0 x1 x2 x3 x4 x5 z0 z1 z2 z3 z4 z5
          go_wp2_with (at_builtin; refine wpList_append_own _ rfl _ _ 36 rfl (S + 1) 3 j0 _ 1 8 Tryz.underlying36 ji jz0 jz1 jz2 rfl (by decide) _ _ _ rfl (HO6.out.alloc _) ⟨w5.heap.size, 0, none⟩ 1 1 [.int .i64 m] rfl rfl (cell_one_newD w5 _ _) (fun x hx => by simp at hx; subst hx; rfl) (by unfold maxLen; omega) (by omega) (by simp; omega) ?_; intro v8 w8 hown8 hgrow8 hnil8; have HP8' := hdN (HP5.out.grown HO5.out hgrow8 hwB); obtain ⟨p0, p1, p2, p3, p4, p5⟩ := six_cells HP8'.out.hS; obtain ⟨q0, q1, q2, q3, q4, q5⟩ := six_free HP8'.out.hS; have hlS8 := heap_ltP HP8'.out.hS; obtain ⟨g8, cap8, rfl⟩ := owns_succD hown8; have HW8 := hdN hown8; clear hown8 hgrow8 hnil8)
          have HP8 := hdN (HP8'.out.set hRS hbS hwS (HP8'.out.hS.kep (.slice (some ⟨g8, 0, none⟩) (k + 1) cap8)))
          refine ⟨⟨k + 1, ks ++ [m], .slice (some ⟨g8, 0, none⟩) (k + 1) cap8, by go_num, by omega, ?_, HF6, HP8, ?_⟩, by simp only [intOf]; omega⟩
          · show _ = _
            rw [List.length_append, HKL.out]; rfl
          · show World.ownsRow _ _ _ _ _ _ _
            rw [List.length_append, ic_snoc, HKL.out]
            exact owns_set HW8.out (by omega)
      · have hlt' : ¬ (k : Int) < (r.length : Int) := by omega
        have HALL : Hid (r.mapM nuM = some ks) := by
          have h1 := HF.out
          rw [List.take_of_length_le (by omega)] at h1
          exact h1
        obtain ⟨x0, x1, x2, x3, x4, x5⟩ := six_cells HP.out.hR
        obtain ⟨z0, z1, z2, z3, z4, z5⟩ := six_free HP.out.hR
        obtain ⟨y0, y1, y2, y3, y4, y5⟩ := six_cells HP.out.hS
        obtain ⟨t0, t1, t2, t3, t4, t5⟩ := six_free HP.out.hS
        have hlR5 := heap_ltP HP.out.hR
        have hlS5 := heap_ltP HP.out.hS
        have HM2 : Hid (res = some ⟨K, ⟨#[]⟩, ⟨#[]⟩, 0, [], ks⟩) := by show _ = _; rw [HM3.out, HALL.out]; rfl
        go_wp2_with fail
        obtain ⟨f1, f2, f3⟩ := HP.out.fin (.int .i64 K) (.string ⟨#[]⟩) (.string ⟨#[]⟩) (.int .i64 0) (.slice none 0 0) (.slice au k cu)
        clear x0 x1 x2 x3 x4 x5 z0 z1 z2 z3 z4 z5 y0 y1 y2 y3 y4 y5 t0 t1 t2 t3 t4 t5
        generalize ((((((wr.setCell ⟨w.heap.size, 0, none⟩ (.int .i64 K)).setCell ⟨w.heap.size, 1, none⟩ (.string ⟨#[]⟩)).setCell ⟨w.heap.size, 2, none⟩ (.string ⟨#[]⟩)).setCell ⟨w.heap.size, 3, none⟩ (.int .i64 0)).setCell ⟨w.heap.size, 4, none⟩ (.slice none 0 0)).setCell ⟨w.heap.size, 5, none⟩ (.slice au k cu)) = WF at *
        obtain ⟨x0, x1, x2, x3, x4, x5⟩ := six_cells f2
        refine bodyPost_ret (v := .tuple #[.agg #[.int .i64 K, .string ⟨#[]⟩, .string ⟨#[]⟩, .int .i64 0, .slice none 0 0, .slice au k cu], .bool true]) (by simp [results, Tryz.results12, go_sem, x0, x1, x2, x3, x4, x5]) rfl ⟨⟨K, ⟨#[]⟩, ⟨#[]⟩, 0, [], ks⟩, (.slice none 0 0), (.slice au k cu), ?_, ?_, f1, ⟨_, _, _, rfl⟩, ⟨_, _, _, rfl⟩⟩
        · rw [HM2.out]; rfl
        · intro v hv
          rw [HM2.out] at hv; cases hv
          refine ⟨rfl, f3 _ _ _ ⟨ownsNil _ _ _ _, ?_⟩⟩
          exact HO.out
set_option maxRecDepth 100000 in
set_option maxHeartbeats 16000000 in
theorem l7Op_6 (s : ByteArray) (w : World) (hs : s.size ≤ 1048576) (hi : kI (hd0 (cutB 32 s)) < 17 ∧ kS.getD (kI (hd0 (cutB 32 s))) 0 = 6) :
    Calls Tryz.prog 12 #[.string s] w fun e w' => ∃ (o : OpV) (ba bk : Value), e = .returned (.tuple #[opA o ba bk, .bool (opM s).isSome]) ∧ (∀ v, opM s = some v → o = v ∧ RowsO w' w.heap.size ba bk o) ∧ Below w.heap.size w w' ∧ (∃ a n c, ba = .slice a n c) ∧ (∃ a n c, bk = .slice a n c) := by
  have hb0 : Below w.heap.size w (w.alloc (.cells #[.int .i64 0, .string ⟨#[]⟩, .string ⟨#[]⟩, .int .i64 0, .slice none 0 0, .slice none 0 0] 38)) := (Below.refl _ _).alloc (Nat.le_refl _) _
  have hR0 : OpC (w.alloc (.cells #[.int .i64 0, .string ⟨#[]⟩, .string ⟨#[]⟩, .int .i64 0, .slice none 0 0, .slice none 0 0] 38)) w.heap.size 0 ⟨#[]⟩ ⟨#[]⟩ 0 (.slice none 0 0) (.slice none 0 0) := World.heap_alloc_new _ _
  have HC := hdN (fun (w' : World) => l7Cut_any s 32 w' hs)
  have HZ := hdN (cut_sizes 32 s hs)
  have HL : Hid ((cutB 32 s).length ≤ 1048577) := by have := cutB_len 32 s; show _ ≤ _; omega
  have hne : cutB 32 s ≠ [] := by unfold cutB; simp [cutL_ne]
  have HM : Hid (opM s = if kI (hd0 (cutB 32 s)) < 17 then opR (kS.getD (kI (hd0 (cutB 32 s))) 0) ((kI (hd0 (cutB 32 s)) : Int) + 1) (cutB 32 s).tail else none) := rfl
  generalize cutB 32 s = ps at *
  generalize opM s = res at *
  cases ps with
  | nil => exact absurd rfl hne
  | cons x r =>
    clear hne
    have HK := hdN (fun (w' : World) => l7Kind_any x w' (HZ.out x (by simp)))
    simp only [hd0, List.headD_cons, List.tail_cons, List.length_cons] at *
    have hs0 := size_alloc w (.cells #[.int .i64 0, .string ⟨#[]⟩, .string ⟨#[]⟩, .int .i64 0, .slice none 0 0, .slice none 0 0] 38)
    have HI := hdN hi
    clear hi
    go_enter Tryz.func12, Tryz.ntmps12
    go_wp2_with fail
    refine (HC.out _).mono ?_
    rintro e w1 ⟨a, cap, rfl, hcap, hl1, hb1⟩
    have hs1 : w.heap.size + 1 ≤ w1.heap.size := by have := hb1.size; omega
    rw [hs0] at hb1
    have hR1 : OpC w1 w.heap.size _ _ _ _ _ _ := (hb1.block w.heap.size (by omega)).trans hR0
    have hbw1 : Below w.heap.size w w1 := hb0.trans (hb1.mono (by omega))
    have hl0 := hl1
    rcases hl1 with h | ⟨b, off, rfl, hbl, hc⟩
    · cases h
    have hlt := hl0.tail
    clear hl0
    have hc0 : w1.cell? ⟨b, off, none⟩ = some (.string x) := hc 0 (by simp)
    clear hc HC hb0 hR0 hs0
    go_wp2_with fail
    refine (HK.out _).mono ?_
    rintro e w2 ⟨rfl, hb2⟩
    have hR2 : OpC w2 w.heap.size _ _ _ _ _ _ := (hb2.block w.heap.size (by have := heap_ltP hR1; omega)).trans hR1
    have hbw2 : Below w.heap.size w w2 := hbw1.trans (hb2.mono hbw1.size)
    have hlt2 := hlt.below hb2
    have hs2 := hb2.size
    clear HK hlt hR1 hbw1 hb2 hb1 hc0
    have HM1 : Hid (res = opR (kS.getD (kI x) 0) ((kI x : Int) + 1) r) := HM.out.trans (if_pos HI.out.1)
    rw [kdT_lt HI.out.1]
    have hi2 := HI.out.2
    generalize kS.getD (kI x) 0 = c at *
    have hK0 : ¬ ((kI x : Int) + 1 = 0) := by omega
    generalize (kI x : Int) + 1 = K at *
    have hKb : (K == 0) = false := by simpa using hK0
    clear HM HI
    obtain ⟨j0, ji, jz0, jz1, jz2⟩ := info_parts iEntry_info
    subst hi2
    have HM3 := hdN (HM1.out.trans (opR_6 K r))
    have hsh : shB 6 = ⟨#[43]⟩ := rfl
    rw [hsh]
    clear HM1 hsh
    go_upto_region 5 with fail
    obtain ⟨off2, hoff, hl2⟩ : ∃ off2, (if cap = 1 then (some ⟨b, off, none⟩ : Option Addr) else some ⟨b, off + 1, none⟩) = some ⟨b, off2, none⟩ ∧ LieP w2 (some ⟨b, off2, none⟩) r := by
      by_cases h1 : cap = 1
      · exact ⟨off, if_pos h1, .inl (List.eq_nil_of_length_eq_zero (by omega))⟩
      · exact ⟨off + 1, if_neg h1, hlt2⟩
    have hb3 : Below w2.heap.size w2 (w2.alloc (.cells #[.int .i64 K, .string ⟨#[]⟩, .string ⟨#[]⟩, .int .i64 0, .slice none 0 0, .slice none 0 0] 38)) := (Below.refl _ _).alloc (Nat.le_refl _) _
    have hP : OpS w (w2.alloc (.cells #[.int .i64 K, .string ⟨#[]⟩, .string ⟨#[]⟩, .int .i64 0, .slice none 0 0, .slice none 0 0] 38)) w.heap.size w2.heap.size b off2 r (w2.heap.size + 1) K 0 (.slice none 0 0) (.slice none 0 0) :=
      ⟨hbw2.trans (hb3.mono hbw2.size), (hb3.block _ (heap_ltP hR2)).trans hR2, World.heap_alloc_new _ _, hl2.below hb3, by rw [size_alloc]; omega, by omega, by omega, by omega⟩
    have hRS : w.heap.size ≠ w2.heap.size := by omega
    have hbS : b ≠ w2.heap.size := by omega
    have hwS : w.heap.size ≤ w2.heap.size := by omega
    clear hb3 hlt2 hl2 hbw2 hR2
    rw [hoff]
    have HP := hdN hP
    clear hP hoff hcap
    generalize w2.alloc (.cells #[.int .i64 K, .string ⟨#[]⟩, .string ⟨#[]⟩, .int .i64 0, .slice none 0 0, .slice none 0 0] 38) = W3 at *
    generalize w2.heap.size = S at *
    have hrl : r.length ≤ 1048576 := by have := HL.out; omega
    have hB3 := HP.out.hB
    have hwB : w.heap.size ≤ S + 1 := by omega
    go_wp2_with fail
    go_loopw [9] (fun v9 W => ∃ (k : Nat) (ks : List En) (u : Value), v9 = .int .i64 (k : Int) ∧ k ≤ r.length ∧ Hid (ks.length = k) ∧ Hid ((r.take k).mapM itO = some ks) ∧ Hid (OpS w W w.heap.size S b off2 r (S + 1) K 0 u (.slice none 0 0)) ∧ Hid (W.ownsRow (S + 1) 51 4 u ks.length (cellsE ks))) (fun v9 _ => r.length - (intOf v9).toNat)
    case atStart => exact ⟨0, [], .slice none 0 0, rfl, Nat.zero_le _, rfl, rfl, HP, ownsNil _ _ _ _⟩
    case round =>
      clear HP
      obtain ⟨k, ks, u, rfl, hk, HKL, HF, HP, HO⟩ := hrel
      obtain ⟨au, cu, hu⟩ := owns_slice HO.out
      rw [HKL.out] at hu
      subst hu
      by_cases hlt : k < r.length
      · have hlt' : (k : Int) < (r.length : Int) := by omega
        have hc : wr.cell? ⟨b, off2 + k, none⟩ = some (.string (r.getD k ByteArray.empty)) := by
          rcases HP.out.hl with h | ⟨b', off', e, hlt2, hcc⟩
          · rw [h] at hlt; simp at hlt
          · cases e
            exact hcc k hlt
        have hbw : b < wr.heap.size := Nat.lt_of_lt_of_le HP.out.hbB HP.out.hB
        have HXZ : Hid ((r.getD k ByteArray.empty).size ≤ 1048576) := HZ.out _ (List.mem_cons_of_mem _ (getD_memP hlt))
        have HIN := hdN (getD_memP hlt)
        have HTK := hdN (takeD r k hlt)
        generalize r.getD k ByteArray.empty = y at *
        have HN := hdN (l7Item_any y wr HXZ.out)
        go_wp2_with fail
        refine HN.out.mono ?_
        rintro e w4 ⟨m, rfl, hm, hb4⟩
        unfold En.agg
        obtain ⟨w5, hw5⟩ : ∃ w5, w5 = w4.alloc (.cells #[.string m.ky, .int .i64 m.sq, .int .i64 m.kd, .string m.vl] 51) := ⟨_, rfl⟩
        have hb5 : Below wr.heap.size wr w5 := by rw [hw5]; exact hb4.alloc hb4.size _
        have hq5 : w5.heap[w4.heap.size]? = some (.cells #[.string m.ky, .int .i64 m.sq, .int .i64 m.kd, .string m.vl] 51 (0, 0)) := by rw [hw5]; exact World.heap_alloc_new _ _
        have hlq := heap_lt hq5
        obtain ⟨⟨e0, e1, e2, e3⟩, -⟩ := four_cells hq5
        clear hq5 hb4
        go_upto_region 17 with fail
        rw [← hw5]
        have HP5 := hdN (HP.out.below hb5)
        have HO5 := hdN (owns_below HO.out hb5)
        clear hw5
        have HMM := hdN hm
        clear hm HN hb5 hc
        obtain ⟨x0, x1, x2, x3, x4, x5⟩ := six_cells HP5.out.hR
        obtain ⟨z0, z1, z2, z3, z4, z5⟩ := six_free HP5.out.hR
        obtain ⟨y0, y1, y2, y3, y4, y5⟩ := six_cells HP5.out.hS
        obtain ⟨t0, t1, t2, t3, t4, t5⟩ := six_free HP5.out.hS
        have hlR5 := heap_ltP HP5.out.hR
        have hlS5 := heap_ltP HP5.out.hS
        cases hny : itO y with
        | none =>
          have HM2 : Hid (res = none) := by
            show _ = _
            rw [HM3.out, if_neg (List.ne_nil_of_mem HIN.out), mapM_none itO HIN.out hny]; rfl
          go_wp2_with fail
          obtain ⟨f1, f2, f3⟩ := HP5.out.fin (.int .i64 K) (.string ⟨#[]⟩) (.string ⟨#[]⟩) (.int .i64 0) (.slice au k cu) (.slice none 0 0)
          clear x0 x1 x2 x3 x4 x5 z0 z1 z2 z3 z4 z5 y0 y1 y2 y3 y4 y5 t0 t1 t2 t3 t4 t5
          generalize ((((((w5.setCell ⟨w.heap.size, 0, none⟩ (.int .i64 K)).setCell ⟨w.heap.size, 1, none⟩ (.string ⟨#[]⟩)).setCell ⟨w.heap.size, 2, none⟩ (.string ⟨#[]⟩)).setCell ⟨w.heap.size, 3, none⟩ (.int .i64 0)).setCell ⟨w.heap.size, 4, none⟩ (.slice au k cu)).setCell ⟨w.heap.size, 5, none⟩ (.slice none 0 0)) = WF at *
          obtain ⟨x0, x1, x2, x3, x4, x5⟩ := six_cells f2
          refine bodyPost_ret (v := .tuple #[.agg #[.int .i64 K, .string ⟨#[]⟩, .string ⟨#[]⟩, .int .i64 0, .slice au k cu, .slice none 0 0], .bool false]) (by simp [results, Tryz.results12, go_sem, x0, x1, x2, x3, x4, x5]) rfl ⟨⟨K, ⟨#[]⟩, ⟨#[]⟩, 0, [], []⟩, (.slice au k cu), (.slice none 0 0), ?_, ?_, f1, ⟨_, _, _, rfl⟩, ⟨_, _, _, rfl⟩⟩
          · rw [HM2.out]; rfl
          · intro v hv
            rw [HM2.out] at hv; cases hv
        | some v =>
          obtain rfl := HMM.out v hny
          have HF6 : Hid ((r.take (k + 1)).mapM itO = some (ks ++ [m])) := by
            show _ = _
            rw [HTK.out]
            exact mapM_snocS itO _ _ _ _ HF.out hny
          have hB5 := HP5.out.hB
          have HO6 := HO5
          rw [HKL.out] at HO6
          clear x0 x1 x2 x3 x4 x5 z0 z1 z2 z3 z4 z5
          go_wp2_with (at_builtin; refine wpList_append_own _ rfl _ _ 35 rfl (S + 1) 51 j0 _ 4 48 Tryz.underlying35 ji jz0 jz1 jz2 rfl (by decide) _ _ _ rfl (HO6.out.alloc _) ⟨w5.heap.size, 0, none⟩ 1 1 [.string m.ky, .int .i64 m.sq, .int .i64 m.kd, .string m.vl] rfl rfl (cell_first4 w5 _ _ _ _ _) (fun x hx => by simp at hx; rcases hx with rfl | rfl | rfl | rfl <;> rfl) (by unfold maxLen; omega) (by omega) (by simp; omega) ?_; intro v8 w8 hown8 hgrow8 hnil8; have HP8' := hdN (HP5.out.grown HO5.out hgrow8 hwB); obtain ⟨p0, p1, p2, p3, p4, p5⟩ := six_cells HP8'.out.hS; obtain ⟨q0, q1, q2, q3, q4, q5⟩ := six_free HP8'.out.hS; have hlS8 := heap_ltP HP8'.out.hS; obtain ⟨g8, cap8, rfl⟩ := owns_succD hown8; have HW8 := hdN hown8; clear hown8 hgrow8 hnil8)
          have HP8 := hdN (HP8'.out.set hRS hbS hwS (HP8'.out.hS.bat (.slice (some ⟨g8, 0, none⟩) (k + 1) cap8)))
          refine ⟨⟨k + 1, ks ++ [m], .slice (some ⟨g8, 0, none⟩) (k + 1) cap8, by go_num, by omega, ?_, HF6, HP8, ?_⟩, by simp only [intOf]; omega⟩
          · show _ = _
            rw [List.length_append, HKL.out]; rfl
          · show World.ownsRow _ _ _ _ _ _ _
            rw [List.length_append, cellsE_snoc, HKL.out]
            exact owns_set HW8.out (by omega)
      · have hlt' : ¬ (k : Int) < (r.length : Int) := by omega
        have HALL : Hid (r.mapM itO = some ks) := by
          have h1 := HF.out
          rw [List.take_of_length_le (by omega)] at h1
          exact h1
        obtain ⟨x0, x1, x2, x3, x4, x5⟩ := six_cells HP.out.hR
        obtain ⟨z0, z1, z2, z3, z4, z5⟩ := six_free HP.out.hR
        obtain ⟨y0, y1, y2, y3, y4, y5⟩ := six_cells HP.out.hS
        obtain ⟨t0, t1, t2, t3, t4, t5⟩ := six_free HP.out.hS
        have hlR5 := heap_ltP HP.out.hR
        have hlS5 := heap_ltP HP.out.hS
        by_cases hr0 : r = []
        · have HM2 : Hid (res = none) := HM3.out.trans (if_pos hr0)
          have hr1 : r.length = 0 := by rw [hr0]; rfl
          have hr2 : ¬ (0 : Int) < (r.length : Int) := by omega
          have HR0 := hdN hr0
          clear hr0 hr1
          go_wp2_with fail
          obtain ⟨f1, f2, f3⟩ := HP.out.fin (.int .i64 K) (.string ⟨#[]⟩) (.string ⟨#[]⟩) (.int .i64 0) (.slice au k cu) (.slice none 0 0)
          clear x0 x1 x2 x3 x4 x5 z0 z1 z2 z3 z4 z5 y0 y1 y2 y3 y4 y5 t0 t1 t2 t3 t4 t5
          generalize ((((((wr.setCell ⟨w.heap.size, 0, none⟩ (.int .i64 K)).setCell ⟨w.heap.size, 1, none⟩ (.string ⟨#[]⟩)).setCell ⟨w.heap.size, 2, none⟩ (.string ⟨#[]⟩)).setCell ⟨w.heap.size, 3, none⟩ (.int .i64 0)).setCell ⟨w.heap.size, 4, none⟩ (.slice au k cu)).setCell ⟨w.heap.size, 5, none⟩ (.slice none 0 0)) = WF at *
          obtain ⟨x0, x1, x2, x3, x4, x5⟩ := six_cells f2
          refine bodyPost_ret (v := .tuple #[.agg #[.int .i64 K, .string ⟨#[]⟩, .string ⟨#[]⟩, .int .i64 0, .slice au k cu, .slice none 0 0], .bool false]) (by simp [results, Tryz.results12, go_sem, x0, x1, x2, x3, x4, x5, HR0.out]) rfl ⟨⟨K, ⟨#[]⟩, ⟨#[]⟩, 0, [], []⟩, (.slice au k cu), (.slice none 0 0), ?_, ?_, f1, ⟨_, _, _, rfl⟩, ⟨_, _, _, rfl⟩⟩
          · rw [HM2.out]; rfl
          · intro v hv
            rw [HM2.out] at hv; cases hv
        · have HM2 : Hid (res = some ⟨K, ⟨#[]⟩, ⟨#[]⟩, 0, ks, []⟩) := by show _ = _; rw [HM3.out, if_neg hr0, HALL.out]; rfl
          have hr1 : 0 < r.length := List.length_pos_iff.2 hr0
          have hr2 : (0 : Int) < (r.length : Int) := by omega
          have HR0 := hdN hr0
          clear hr0
          go_wp2_with fail
          obtain ⟨f1, f2, f3⟩ := HP.out.fin (.int .i64 K) (.string ⟨#[]⟩) (.string ⟨#[]⟩) (.int .i64 0) (.slice au k cu) (.slice none 0 0)
          clear x0 x1 x2 x3 x4 x5 z0 z1 z2 z3 z4 z5 y0 y1 y2 y3 y4 y5 t0 t1 t2 t3 t4 t5
          generalize ((((((wr.setCell ⟨w.heap.size, 0, none⟩ (.int .i64 K)).setCell ⟨w.heap.size, 1, none⟩ (.string ⟨#[]⟩)).setCell ⟨w.heap.size, 2, none⟩ (.string ⟨#[]⟩)).setCell ⟨w.heap.size, 3, none⟩ (.int .i64 0)).setCell ⟨w.heap.size, 4, none⟩ (.slice au k cu)).setCell ⟨w.heap.size, 5, none⟩ (.slice none 0 0)) = WF at *
          obtain ⟨x0, x1, x2, x3, x4, x5⟩ := six_cells f2
          refine bodyPost_ret (v := .tuple #[.agg #[.int .i64 K, .string ⟨#[]⟩, .string ⟨#[]⟩, .int .i64 0, .slice au k cu, .slice none 0 0], .bool true]) (by simp [results, Tryz.results12, go_sem, x0, x1, x2, x3, x4, x5]) rfl ⟨⟨K, ⟨#[]⟩, ⟨#[]⟩, 0, ks, []⟩, (.slice au k cu), (.slice none 0 0), ?_, ?_, f1, ⟨_, _, _, rfl⟩, ⟨_, _, _, rfl⟩⟩
          · rw [HM2.out]; rfl
          · intro v hv
            rw [HM2.out] at hv; cases hv
            refine ⟨rfl, f3 _ _ _ ⟨?_, ownsNil _ _ _ _⟩⟩
            exact HO.out
theorem kS_le (i : Nat) (hi : i < 17) : kS.getD i 0 ≤ 4 ∨ kS.getD i 0 = 5 ∨ kS.getD i 0 = 6 :=
  (by decide : ∀ i : Fin 17, kS.getD i 0 ≤ 4 ∨ kS.getD i 0 = 5 ∨ kS.getD i 0 = 6) ⟨i, hi⟩
theorem l7Op_any (s : ByteArray) (w : World) (hs : s.size ≤ 1048576) :
    Calls Tryz.prog 12 #[.string s] w fun e w' => ∃ (o : OpV) (ba bk : Value), e = .returned (.tuple #[opA o ba bk, .bool (opM s).isSome]) ∧ (∀ v, opM s = some v → o = v ∧ RowsO w' w.heap.size ba bk o) ∧ Below w.heap.size w w' ∧ (∃ a n c, ba = .slice a n c) ∧ (∃ a n c, bk = .slice a n c) := by
  by_cases hi : kI (hd0 (cutB 32 s)) < 17
  · rcases kS_le _ hi with h | h | h
    · exact l7Op_g s w hs ⟨hi, h⟩
    · exact l7Op_5 s w hs ⟨hi, h⟩
    · exact l7Op_6 s w hs ⟨hi, h⟩
  · exact l7Op_no s w hs hi
end Go.Proofs.YtohpfjpgihcmiaaGreatDoor
