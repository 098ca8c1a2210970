import Derived.Test.YtohpfjpgihcmiaaGreatDoorPsM

namespace Go.Proofs.YtohpfjpgihcmiaaGreatDoor
open Go.RowKit Go.Maps
set_option linter.unusedVariables false
set_option linter.unusedSimpArgs false

theorem KsL.block {w w' : World} {g : Nat} (h : KsL w g) (hb : w'.heap[g]? = w.heap[g]?) (hs : w.heap.size ≤ w'.heap.size) : KsL w' g :=
  ⟨Nat.lt_of_lt_of_le h.1 hs, fun i hi => by
    obtain ⟨a0, a1, a2⟩ := h.2 i hi
    exact ⟨(World.cell?_of_block (w := w) hb).trans a0, (World.cell?_of_block (w := w) hb).trans a1, (World.cell?_of_block (w := w) hb).trans a2⟩⟩
theorem LieP.block {w w' : World} {b off : Nat} {xs : List ByteArray} (h : LieP w (some ⟨b, off, none⟩) xs) (hb : w'.heap[b]? = w.heap[b]?) (hs : w.heap.size ≤ w'.heap.size) : LieP w' (some ⟨b, off, none⟩) xs := by
  rcases h with rfl | ⟨b', off', e, hlt, hc⟩
  · exact .inl rfl
  · cases e
    exact .inr ⟨b, off, rfl, Nat.lt_of_lt_of_le hlt hs, fun i hi => (World.cell?_of_block (w := w) hb).trans (hc i hi)⟩
theorem owns_slice {w : World} {B size n : Nat} {e : TypeId} {v : Value} {xs : List Value} (h : w.ownsRow B e size v n xs) : ∃ a c, v = .slice a n c := by
  rcases h.2 with ⟨rfl, rfl⟩ | ⟨g, cap, cur, rfl, -⟩
  · exact ⟨none, 0, rfl⟩
  · exact ⟨_, _, rfl⟩
/-- How far the program has read a script: block R holds the answer, block S the script, block g the kinds, block b the lines. -/
structure PsW (w W : World) (R S g b off : Nat) (ls : List ByteArray) (q : Int) (B : Nat) (v : Value) (os : List OpW) : Prop where
  hb : Below w.heap.size w W
  hR : W.heap[R]? = some (.cells #[.int .i64 0, .slice none 0 0] 24 (0, 0))
  hS : W.heap[S]? = some (.cells #[.int .i64 q, v] 24 (0, 0))
  hk : KsL W g
  hl : LieP W (some ⟨b, off, none⟩) ls
  ho : ScR W B v os
  hB : B ≤ W.heap.size
  hRB : R < B
  hSB : S < B
  hgB : g < B
  hbB : b < B
theorem PsW.below {w W W' : World} {R S g b off : Nat} {ls : List ByteArray} {q : Int} {B : Nat} {v : Value} {os : List OpW} (h : PsW w W R S g b off ls q B v os) (hb : Below W.heap.size W W') : PsW w W' R S g b off ls q B v os :=
  ⟨h.hb.trans (hb.mono h.hb.size), (hb.block R (Nat.lt_of_lt_of_le h.hRB h.hB)).trans h.hR, (hb.block S (Nat.lt_of_lt_of_le h.hSB h.hB)).trans h.hS, h.hk.below hb, h.hl.below hb, h.ho.below hb, Nat.le_trans h.hB hb.size, h.hRB, h.hSB, h.hgB, h.hbB⟩
theorem PsW.grow {w W W8 : World} {R S g b off : Nat} {ls : List ByteArray} {q : Int} {B : Nat} {v v8 : Value} {os : List OpW} {x : OpW} {o : Obj} (h : PsW w W R S g b off ls q B v os) (hRS : R ≠ S) (hgS : g ≠ S) (hbS : b ≠ S) (hws : w.heap.size ≤ S) {N : Nat} (hN : B ≤ N) (hx : RowsO W N x.ba x.bk x.o) (hf : Fresh N os) (hg : (W.alloc o).grownBy W8 v.ownBlock) (hw : W8.ownsRow B 38 6 v8 (os.length + 1) (cellsO os ++ op6 x)) :
    PsW w (W8.setCell ⟨S, 1, none⟩ v8) R S g b off ls q B v8 (os ++ [x]) := by
  have hB := h.hB
  have hs8 : W.heap.size ≤ W8.heap.size := by have := hg.size; rw [size_alloc] at this; omega
  have hbl : ∀ k, k < B → W8.heap[k]? = W.heap[k]? := fun k hkB => by
    refine (hg.block k (by rw [size_alloc]; omega) (fun e => ?_)).trans (heap_alloc_oldH W o k (by omega))
    have := owns_base h.ho.row k e.symm
    omega
  have hset : ∀ k, k ≠ S → (W8.setCell ⟨S, 1, none⟩ v8).heap[k]? = W8.heap[k]? := fun k hk => Below.heap_setCell _ _ _ _ (by simpa using hk)
  have hss : (W8.setCell ⟨S, 1, none⟩ v8).heap.size = W8.heap.size := by simp [World.setCell]
  have hS8 : W8.heap[S]? = some (.cells #[.int .i64 q, v] 24 (0, 0)) := (hbl S h.hSB).trans h.hS
  refine ⟨?_, (hset R hRS).trans ((hbl R h.hRB).trans h.hR), ?_, h.hk.block ((hset g hgS).trans (hbl g h.hgB)) (by rw [hss]; exact hs8), h.hl.block ((hset b hbS).trans (hbl b h.hbB)) (by rw [hss]; exact hs8), (h.ho.grow hN hx hf hg hw).set h.hSB, by rw [hss]; omega, h.hRB, h.hSB, h.hgB, h.hbB⟩
  · exact belowSet (grow_below h.hb h.ho.row hg (by have := h.hSB; omega) h.hB) hws
  · rw [heap_setCell_same _ _ _ _ _ _ hS8]; rfl
theorem mapM_snocS {α β : Type} (f : α → Option β) (xs : List α) (x : α) (us : List β) (v : β) (h : xs.mapM f = some us) (hx : f x = some v) : (xs ++ [x]).mapM f = some (us ++ [v]) := by
  rw [List.mapM_append, h]
  simp [hx]
theorem opsM_bad {ls pre rest : List ByteArray} {x : ByteArray} {os : List OpV} {k : Nat} (h : ls = pre ++ x :: rest) (hm : pre.mapM opM = some os) (hk : k = pre.length) (hk2 : k ≤ 2000) (hx : opM x = none ∨ k = 2000) : opsM 0 ls = .error k := by
  have e : opsM (0 + pre.length) (x :: rest) = .error k := by
    rw [Nat.zero_add, ← hk, opsM]
    by_cases h3 : k = 2000
    · rw [if_pos h3]
    · rw [if_neg h3]
      rcases hx with hx | hx
      · rw [hx]
      · exact absurd hx h3
  rw [h, opsM_app pre os 0 _ hm (by omega), e]
theorem PsW.fin {w W : World} {S g b off : Nat} {ls : List ByteArray} {q : Int} {B : Nat} {v : Value} {os : List OpW} (h : PsW w W w.heap.size S g b off ls q B v os) (x0 x1 : Value) :
    ScR ((W.setCell ⟨w.heap.size, 0, none⟩ x0).setCell ⟨w.heap.size, 1, none⟩ x1) w.heap.size v os ∧ Below w.heap.size w ((W.setCell ⟨w.heap.size, 0, none⟩ x0).setCell ⟨w.heap.size, 1, none⟩ x1) ∧ ((W.setCell ⟨w.heap.size, 0, none⟩ x0).setCell ⟨w.heap.size, 1, none⟩ x1).heap[w.heap.size]? = some (.cells #[x0, x1] 24 (0, 0)) := by
  refine ⟨((h.ho.set h.hRB).set h.hRB).down (Nat.le_of_lt h.hRB), belowSet (belowSet h.hb (Nat.le_refl _)) (Nat.le_refl _), ?_⟩
  rw [heap_setCell_same _ _ _ _ _ _ (heap_setCell_same _ _ _ _ _ _ h.hR)]
  rfl
set_option maxRecDepth 100000 in
set_option maxHeartbeats 8000000 in
theorem implPs_any (s : ByteArray) (w : World) (hs : s.size ≤ 1048576) (hv : VarsP w) :
    Calls Tryz.prog 5 #[.string s] w fun e w' => ∃ (q : Int) (v : Value) (os : List OpW) (c : Int), e = .returned (.tuple #[.agg #[.int .i64 q, v], .int .i64 c]) ∧ ScR w' w.heap.size v os ∧ (q, os.map (·.o), c) = psV s ∧ Below w.heap.size w w' := by
  obtain ⟨i0, hi, hz0, hz1, hz2⟩ := info_parts iOp_info
  have hb0 : Below w.heap.size w (w.alloc (.cells #[.int .i64 0, .slice none 0 0] 24)) := (Below.refl _ _).alloc (Nat.le_refl _) _
  have hR0 : (w.alloc (.cells #[.int .i64 0, .slice none 0 0] 24)).heap[w.heap.size]? = some (.cells #[.int .i64 0, .slice none 0 0] 24 (0, 0)) := World.heap_alloc_new _ _
  have hs0 : (w.alloc (.cells #[.int .i64 0, .slice none 0 0] 24)).heap.size = w.heap.size + 1 := size_alloc _ _
  by_cases hbig : 60000 < s.size
  · have hbig' : (60000 : Int) < (s.size : Int) := by omega
    have HV : Hid (psV s = (0, [], 1)) := if_pos hbig
    go_enter Tryz.func5, Tryz.ntmps5
    go_wp2_with fail
    obtain ⟨x0, x1, -⟩ := two_cellsP hR0
    refine bodyPost_ret (v := .tuple #[.agg #[.int .i64 0, .slice none 0 0], .int .i64 1]) (by simp [results, Tryz.results5, go_sem, x0, x1]) rfl ⟨0, .slice none 0 0, [], 1, rfl, ScR.nil _ _, HV.out.symm, hb0⟩
  · have hbig' : ¬ (60000 : Int) < (s.size : Int) := by omega
    have HLN := hdN (linesOf_any s (w.alloc (.cells #[.int .i64 0, .slice none 0 0] 24)) hs (hv.below hb0))
    have HLZ : Hid (∀ x ∈ lnB s, x.size ≤ 60000) := by
      intro x hx
      have hm : x ∈ cutB 10 s := by
        unfold lnB at hx
        split at hx
        · exact (List.dropLast_sublist _).subset hx
        · exact hx
      have := cut_size 10 s x hm
      omega
    have hll : (lnB s).length ≤ 60001 := by
      have h1 := cutB_len 10 s
      have h2 : (lnB s).length ≤ (cutB 10 s).length := by
        unfold lnB
        split
        · simp
        · exact Nat.le_refl _
      omega
    have HV : Hid (psV s = match lnB s with
        | [] => (0, [], 2)
        | l :: ls => match quotaM l with
          | none => (0, [], 2)
          | some q => match opsM 0 ls with
            | .ok os => (q, os, 0)
            | .error j => (0, [], 3 + (j : Int))) := if_neg hbig
    generalize lnB s = L at *
    generalize psV s = res at *
    obtain ⟨w0, hw0⟩ : ∃ w0, w0 = w.alloc (.cells #[.int .i64 0, .slice none 0 0] 24) := ⟨_, rfl⟩
    rw [← hw0] at hb0 hR0 hs0 HLN
    have hlt0 := heap_ltP hR0
    cases L with
    | nil =>
      go_enter Tryz.func5, Tryz.ntmps5
      go_wp2_with fail
      rw [← hw0]
      refine HLN.out.mono ?_
      rintro e w1 ⟨b, off, cap, rfl, hcap, hL1, hb1, hbl⟩
      have hR1 := (hb1.block w.heap.size (by omega)).trans hR0
      obtain ⟨x0, x1, z0, z1, hl1⟩ := two_cellsP hR1
      have hbw : Below w.heap.size w w1 := hb0.trans (hb1.mono hb0.size)
      clear hL1 hcap hbl hb1 hw0 hR0
      go_wp2_with fail
      refine bodyPost_ret (v := .tuple #[.agg #[.int .i64 0, .slice none 0 0], .int .i64 2]) (by simp [results, Tryz.results5, go_sem, x0, x1, z0, z1]) rfl ⟨0, .slice none 0 0, [], 2, rfl, ScR.nil _ _, HV.out.symm, ?_⟩
      exact belowSet (belowSet hbw (Nat.le_refl _)) (Nat.le_refl _)
    | cons l ls =>
      have HLL : Hid (l.size ≤ 1048576) := Nat.le_trans (HLZ.out l (by simp)) (by omega)
      have HQ := hdN (fun (w' : World) (hb : Below w.heap.size w w') => readQuota_any l w' HLL.out (hv.below hb))
      simp only [List.length_cons] at *
      have hl1' : ((ls.length : Int) + 1 = 0) = False := by simp; omega
      go_enter Tryz.func5, Tryz.ntmps5
      go_wp2_with fail
      rw [← hw0]
      refine HLN.out.mono ?_
      rintro e w1 ⟨b, off, cap, rfl, hcap, hL1, hb1, hbl⟩
      have hR1 := (hb1.block w.heap.size (by omega)).trans hR0
      have hbw1 : Below w.heap.size w w1 := hb0.trans (hb1.mono hb0.size)
      have hls1 := hL1.tail
      have hc0 : w1.cell? ⟨b, off, none⟩ = some (.string l) := by
        rcases hL1 with h | ⟨b', off', e, hlt, hc⟩
        · cases h
        · cases e
          exact hc 0 (by simp)
      clear HLN hw0 hR0 hb0 hL1
      go_wp2_with fail
      refine (HQ.out w1 hbw1).mono ?_
      rintro e w2 ⟨v, rfl, hvq, hb2⟩
      have hR2 := (hb2.block w.heap.size (by have := hb1.size; omega)).trans hR1
      have hbw2 : Below w.heap.size w w2 := hbw1.trans (hb2.mono hbw1.size)
      clear HQ
      cases hq : quotaM l with
      | none =>
        have HV2 : Hid (res = (0, [], 2)) := by have := HV.out; simp only [hq] at this; exact this
        obtain ⟨x0, x1, z0, z1, hl1⟩ := two_cellsP hR2
        go_wp2_with fail
        refine bodyPost_ret (v := .tuple #[.agg #[.int .i64 0, .slice none 0 0], .int .i64 2]) (by simp [results, Tryz.results5, go_sem, x0, x1, z0, z1]) rfl ⟨0, .slice none 0 0, [], 2, rfl, ScR.nil _ _, HV2.out.symm, ?_⟩
        exact belowSet (belowSet hbw2 (Nat.le_refl _)) (Nat.le_refl _)
      | some q =>
        have HV2 : Hid (res = match opsM 0 ls with
          | .ok os => (q, os, 0)
          | .error j => (0, [], 3 + (j : Int))) := by have := HV.out; simp only [hq] at this; exact this
        obtain rfl := hvq q hq
        go_wp2_with fail
        obtain ⟨w3, hw3⟩ : ∃ w3, w3 = w2.alloc (.cells #[.int .i64 v, .slice none 0 0] 24) := ⟨_, rfl⟩
        rw [← hw3]
        have hb3 : Below w2.heap.size w2 w3 := by rw [hw3]; exact (Below.refl _ _).alloc (Nat.le_refl _) _
        have hS3 : w3.heap[w2.heap.size]? = some (.cells #[.int .i64 v, .slice none 0 0] 24 (0, 0)) := by rw [hw3]; exact World.heap_alloc_new _ _
        have hs3 : w3.heap.size = w2.heap.size + 1 := by rw [hw3]; exact size_alloc _ _
        refine (lineKinds_any w3).mono ?_
        rintro e w4 ⟨g, rfl, hg3, hk4, hb4⟩
        have hs1 := hb1.size
        have hs2 := hb2.size
        have hs4 := hb4.size
        have hP : PsW w w4 w.heap.size w2.heap.size g b (off + 1) ls v w4.heap.size (.slice none 0 0) [] :=
          ⟨hbw2.trans ((hb3.trans (hb4.mono hb3.size)).mono hbw2.size), (hb4.block _ (by omega)).trans ((hb3.block _ (by omega)).trans hR2), (hb4.block _ (by omega)).trans hS3, hk4, ((hls1.below hb2).below hb3).below hb4, ScR.nil _ _, Nat.le_refl _, by omega, by omega, hk4.1, by omega⟩
        have hgS : g ≠ w2.heap.size := by omega
        have hbS : b ≠ w2.heap.size := by omega
        have hRS : w.heap.size ≠ w2.heap.size := by omega
        have hwS : w.heap.size ≤ w2.heap.size := by omega
        clear hw3 hb3 hS3 hb4 hk4 hR2 hbw2 hb2 hls1 hc0 hR1 hbw1 hb1 HV
        generalize w2.heap.size = S at *
        have HP := hdN hP
        have HZ : Hid (∀ x ∈ ls, x.size ≤ 1048576) := fun x hx => Nat.le_trans (HLZ.out x (by simp [hx])) (by omega)
        generalize w4.heap.size = B at *
        clear hP HLZ HLL
        by_cases hcap1 : cap = 1
        · subst hcap1
          obtain rfl : ls = [] := List.eq_nil_of_length_eq_zero (by omega)
          simp only [List.length_nil] at *
          go_wp2_with fail
          go_loopw [39] (fun v39 W => v39 = .int .i64 0 ∧ W = w4) (fun _ _ => 0)
          case atStart => exact ⟨rfl, rfl⟩
          case round =>
            obtain ⟨rfl, rfl⟩ := hrel
            obtain ⟨x0, x1, z0, z1, hl1⟩ := two_cellsP HP.out.hR
            obtain ⟨y0, y1, t0, t1, hl2⟩ := two_cellsP HP.out.hS
            go_wp2_with fail
            obtain ⟨f1, f2, f3⟩ := HP.out.fin (.int .i64 v) (.slice none 0 0)
            clear x0 x1 z0 z1 y0 y1 t0 t1
            obtain ⟨x0, x1, -⟩ := two_cellsP f3
            refine bodyPost_ret (v := .tuple #[.agg #[.int .i64 v, .slice none 0 0], .int .i64 0]) (by simp [results, Tryz.results5, go_sem, x0, x1]) rfl ⟨v, .slice none 0 0, [], 0, rfl, f1, HV2.out.symm, f2⟩
        · have hcap2 : 1 ≤ cap := by omega
          have hcap3 : ¬ cap - 1 = 0 := by omega
          go_wp2_with fail
          go_loopw [39] (fun v39 W => ∃ (k : Nat) (pre rest : List ByteArray) (os : List OpW) (u : Value), v39 = .int .i64 (k : Int) ∧ Hid (k = pre.length) ∧ k ≤ 2000 ∧ Hid (ls = pre ++ rest) ∧ Hid (pre.mapM opM = some (os.map (·.o))) ∧ Hid (os.length = k) ∧ Hid (PsW w W w.heap.size S g b (off + 1) ls v B u os)) (fun v39 _ => ls.length - (intOf v39).toNat)
          case atStart => exact ⟨0, [], ls, [], .slice none 0 0, rfl, rfl, by omega, rfl, rfl, rfl, HP⟩
          case round =>
            clear HP
            obtain ⟨k, pre, rest, os, u, rfl, HK, hk2, HLS, HM, HOL, HP⟩ := hrel
            obtain ⟨au, cu, rfl⟩ := owns_slice HP.out.ho.row
            have hol := HOL.out
            rw [hol] at HP
            clear hol
            have hlen : ls.length = k + rest.length := by rw [HLS.out, List.length_append, HK.out]
            obtain ⟨x0, x1, z0, z1, hl1⟩ := two_cellsP HP.out.hR
            obtain ⟨y0, y1, t0, t1, hl2⟩ := two_cellsP HP.out.hS
            cases rest with
            | nil =>
              have hkl : ¬ (k : Int) < (ls.length : Int) := by rw [hlen]; simp
              go_wp2_with fail
              obtain ⟨f1, f2, f3⟩ := HP.out.fin (.int .i64 v) (.slice au k cu)
              clear x0 x1 z0 z1 y0 y1 t0 t1
              obtain ⟨x0, x1, -⟩ := two_cellsP f3
              refine bodyPost_ret (v := .tuple #[.agg #[.int .i64 v, .slice au k cu], .int .i64 0]) (by simp [results, Tryz.results5, go_sem, x0, x1]) rfl ⟨v, .slice au k cu, os, 0, rfl, f1, ?_, f2⟩
              rw [HV2.out, HLS.out, opsM_app pre _ 0 [] HM.out (by have := HK.out; omega)]
              simp [opsM]
            | cons x rest =>
              have hkl : (k : Int) < (ls.length : Int) := by rw [hlen]; simp; omega
              have hc : wr.cell? ⟨b, off + 1 + k, none⟩ = some (.string x) := by
                rcases HP.out.hl with h | ⟨b', off', e, hlt, hcc⟩
                · rw [h] at hlen; simp at hlen
                · cases e
                  have := hcc k (by rw [hlen]; simp)
                  have e2 : ls.getD k ByteArray.empty = x := by rw [HLS.out, HK.out]; simp
                  rw [e2] at this
                  exact this
              have hbl9 : b < wr.heap.size := Nat.lt_of_lt_of_le HP.out.hbB HP.out.hB
              have HR := hdN (readLine_any x g wr (HZ.out x (by rw [HLS.out]; simp)) (hv.below HP.out.hb) HP.out.hk)
              clear x0 x1 z0 z1 y0 y1 t0 t1 hl1 hl2
              go_wp2_with fail
              refine HR.out.mono ?_
              rintro e w5 ⟨o, ba, bk, rfl, ho, hb5, ⟨ab, nb, cb, rfl⟩, ⟨ak, nk, ck, rfl⟩⟩
              unfold opA
              have hP5 := HP.out.below hb5
              have hsz5 := hb5.size
              have HO := hdN ho
              have hBw := HP.out.hB
              have HLEN := hdN hlen
              clear ho HR hc hlen
              obtain ⟨x0, x1, z0, z1, hl1⟩ := two_cellsP hP5.hR
              obtain ⟨y0, y1, t0, t1, hl2⟩ := two_cellsP hP5.hS
              have HP5 := hdN hP5
              clear hP5
              cases hx : opM x with
              | none =>
                have HV3 : Hid (res = (0, [], 3 + (k : Int))) := by
                  have := HV2.out
                  rw [opsM_bad HLS.out HM.out HK.out hk2 (.inl hx)] at this
                  exact this
                go_wp2_with fail
                obtain ⟨f1, f2', f3'⟩ := HP5.out.fin (.int .i64 0) (.slice none 0 0)
                have f2 := f2'.alloc f2'.size (.cells #[.int .i64 o.kd, .string o.ky, .string o.vl, .int .i64 o.n, .slice ab nb cb, .slice ak nk ck] 38)
                have f3 := (heap_alloc_oldH _ (.cells #[.int .i64 o.kd, .string o.ky, .string o.vl, .int .i64 o.n, .slice ab nb cb, .slice ak nk ck] 38) _ (heap_ltP f3')).trans f3'
                clear f2' f3' f1
                clear x0 x1 z0 z1 y0 y1 t0 t1
                generalize ((w5.setCell ⟨w.heap.size, 0, none⟩ (.int .i64 0)).setCell ⟨w.heap.size, 1, none⟩ (.slice none 0 0)).alloc (.cells #[.int .i64 o.kd, .string o.ky, .string o.vl, .int .i64 o.n, .slice ab nb cb, .slice ak nk ck] 38) = WF at *
                obtain ⟨x0, x1, -⟩ := two_cellsP f3
                refine bodyPost_ret (v := .tuple #[.agg #[.int .i64 0, .slice none 0 0], .int .i64 (3 + (k : Int))]) (by simp [results, Tryz.results5, go_sem, x0, x1]) rfl ⟨0, .slice none 0 0, [], 3 + (k : Int), rfl, ScR.nil _ _, HV3.out.symm, f2⟩
              | some o' =>
                obtain ⟨hox, hro⟩ := HO.out o' hx
                subst hox
                by_cases hk3 : k = 2000
                · have HV3 : Hid (res = (0, [], 2003)) := by
                    have := HV2.out
                    rw [opsM_bad HLS.out HM.out HK.out hk2 (.inr hk3), hk3] at this
                    exact this
                  have hk3' : (k : Int) = 2000 := by omega
                  clear hro
                  go_wp2_with fail
                  obtain ⟨f1, f2', f3'⟩ := HP5.out.fin (.int .i64 0) (.slice none 0 0)
                  have f2 := f2'.alloc f2'.size (.cells #[.int .i64 o.kd, .string o.ky, .string o.vl, .int .i64 o.n, .slice ab nb cb, .slice ak nk ck] 38)
                  have f3 := (heap_alloc_oldH _ (.cells #[.int .i64 o.kd, .string o.ky, .string o.vl, .int .i64 o.n, .slice ab nb cb, .slice ak nk ck] 38) _ (heap_ltP f3')).trans f3'
                  clear f2' f3' f1 x0 x1 z0 z1 y0 y1 t0 t1
                  generalize ((w5.setCell ⟨w.heap.size, 0, none⟩ (.int .i64 0)).setCell ⟨w.heap.size, 1, none⟩ (.slice none 0 0)).alloc (.cells #[.int .i64 o.kd, .string o.ky, .string o.vl, .int .i64 o.n, .slice ab nb cb, .slice ak nk ck] 38) = WF at *
                  obtain ⟨x0, x1, -⟩ := two_cellsP f3
                  refine bodyPost_ret (v := .tuple #[.agg #[.int .i64 0, .slice none 0 0], .int .i64 2003]) (by simp [results, Tryz.results5, go_sem, x0, x1]) rfl ⟨0, .slice none 0 0, [], 2003, rfl, ScR.nil _ _, HV3.out.symm, f2⟩
                · have hk3' : ¬ (k : Int) = 2000 := by omega
                  obtain ⟨W6, hW6⟩ : ∃ W6, W6 = w5.alloc (.cells #[.int .i64 o.kd, .string o.ky, .string o.vl, .int .i64 o.n, .slice ab nb cb, .slice ak nk ck] 38) := ⟨_, rfl⟩
                  have hb6 : Below w5.heap.size w5 W6 := by rw [hW6]; exact (Below.refl _ _).alloc (Nat.le_refl _) _
                  have hp6 := HP5.out.below hb6
                  have hro6 := hro.below hb6
                  have HP6 := hdN hp6
                  have HR6 := hdN hro6
                  have HFR := hdN HP.out.ho.fresh
                  have hB6 := hp6.hB
                  have HOW := hdN hp6.ho.row
                  have HOL2 := HOL
                  rw [HOL.out] at HOW
                  have hS6 := two_cellsP hp6.hS
                  have hq6 : W6.heap[w5.heap.size]? = some (.cells #[.int .i64 o.kd, .string o.ky, .string o.vl, .int .i64 o.n, .slice ab nb cb, .slice ak nk ck] 38 (0, 0)) := by rw [hW6]; exact World.heap_alloc_new _ _
                  have HQ6 := hdN (six_cells hq6)
                  have hl6 := heap_ltP hq6
                  have HS6 := hdN hS6
                  clear hro hp6 hro6 hb6 hS6 hq6
                  go_upto_region 17 with fail
                  rw [← hW6]
                  clear x0 x1 z0 z1 y0 y1 t0 t1 hW6
                  obtain ⟨y0, y1, t0, t1, hlS⟩ := HS6.out
                  obtain ⟨x0, x1, x2, x3, x4, x5⟩ := HQ6.out
                  go_wp2_with (at_builtin; refine wpList_append_own _ rfl _ _ 22 rfl B 38 i0 _ 6 96 Tryz.underlying22 hi hz0 hz1 hz2 rfl (by decide) _ _ _ rfl (HOW.out.alloc _) ⟨W6.heap.size, 0, none⟩ 1 1 [.int .i64 o.kd, .string o.ky, .string o.vl, .int .i64 o.n, .slice ab nb cb, .slice ak nk ck] rfl rfl (cell_first6 W6 _ _ _ _ _ _ _) (fun x hx => by simp at hx; rcases hx with rfl | rfl | rfl | rfl | rfl | rfl <;> rfl) (by unfold maxLen; omega) (by omega) (by simp; omega) ?_; intro v8 w8 hown8 hgrow8 hnil8; have HP8 := hdN (PsW.grow (x := ⟨o, .slice ab nb cb, .slice ak nk ck⟩) HP6.out hRS hgS hbS hwS hBw HR6.out HFR.out hgrow8 (by rw [HOL.out]; exact hown8)); have b8 : w8.heap[S]? = some (.cells #[.int .i64 v, .slice au k cu] 24 (0, 0)) := (hgrow8.block S (by rw [size_alloc]; omega) (fun e => by have := owns_base HOW.out S e.symm; have := HP6.out.hSB; omega)).trans ((heap_alloc_oldH W6 _ S hlS).trans HP6.out.hS); obtain ⟨p0, p1, q0, q1, hl8⟩ := two_cellsP b8; obtain ⟨g8, cap8, rfl⟩ := owns_succD hown8; clear hown8 hgrow8 hnil8 b8)
                  refine ⟨⟨k + 1, pre ++ [x], rest, os ++ [⟨o, .slice ab nb cb, .slice ak nk ck⟩], _, by congr 1, ?_, by omega, ?_, ?_, ?_, HP8⟩, ?_⟩
                  · show _ = _
                    rw [List.length_append, HK.out]; rfl
                  · show _ = _
                    rw [HLS.out]; simp
                  · show _ = _
                    rw [mapM_snocS opM pre x _ _ HM.out hx]; simp
                  · show _ = _
                    rw [List.length_append, HOL.out]; rfl
                  · simp only [intOf]
                    have := HLEN.out
                    simp only [List.length_cons] at this
                    omega
end Go.Proofs.YtohpfjpgihcmiaaGreatDoor
