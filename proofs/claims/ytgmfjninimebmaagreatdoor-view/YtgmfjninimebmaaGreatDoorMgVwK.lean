import Derived.Test.YtgmfjninimebmaaGreatDoorMgVwI
import Derived.Deep.RegionHeld3
namespace Go.Proofs.YtgmfjninimebmaaGreatDoor
open Go.RowKit Go.Maps
set_option linter.unusedVariables false
set_option linter.unusedSimpArgs false

theorem stg_go {xs : List Fl} {m : Nat} (h1 : mkAt xs goB = some m) : stg xs = (2, (m : Int)) := by unfold stg; rw [h1]
theorem stg_ok {xs : List Fl} {m : Nat} (h1 : mkAt xs goB = none) (h2 : mkAt xs okB = some m) : stg xs = (1, (m : Int)) := by unfold stg; rw [h1, h2]
theorem stg_no {xs : List Fl} (h1 : mkAt xs goB = none) (h2 : mkAt xs okB = none) : stg xs = (0, 0) := by unfold stg; rw [h1, h2]
/-- What View gives, by the stage. -/
theorem vwE_stg {xs : List Fl} {q fu : Int} (h : vldB xs q fu = true) : (0 < (stg xs).1 ∧ vwE xs q fu = (rtL (dtA xs tabB), (stg xs).2)) ∨ ((stg xs).1 = 0 ∧ vwE xs q fu = (newE (lsA xs).flatten, lastE (lsA xs).flatten)) := by
  cases h1 : mkAt xs goB with
  | some m => exact .inl ⟨by rw [stg_go h1]; simp, by rw [stg_go h1]; exact vwE_go h h1⟩
  | none =>
    cases h2 : mkAt xs okB with
    | some m => exact .inl ⟨by rw [stg_ok h1 h2]; simp, by rw [stg_ok h1 h2]; exact vwE_ok h h1 h2⟩
    | none => exact .inr ⟨by rw [stg_no h1 h2], vwE_no h h1 h2⟩
theorem vld_names {xs : List Fl} {q fu : Int} (h : vldB xs q fu = true) : ∀ i, i < xs.length → (xs.getD i fl0).nm.size ≤ 1048576 := fun i hi => by
  have := (vld_head h).2.1 i hi
  unfold okAt at this
  rw [Bool.and_eq_true, Bool.and_eq_true] at this
  have h1 := this.1.1
  unfold nmOk at h1
  rw [Bool.and_eq_true] at h1
  have := of_decide_eq_true h1.2
  omega
theorem allE_snoc (L : List LV) (i : Nat) (h : i < L.length) : allE (L.take (i + 1)) = allE (L.take i) ++ (L.getD i lv0).xs := allE_take L i h
set_option maxRecDepth 100000 in
set_option maxHeartbeats 8000000 in
theorem specView_any (a : Option Addr) (cap : Nat) (xs : List Fl) (q fu : Int) (w : World) (hx : Lie w a xs) (hf : Fits xs) (hlen : xs.length ≤ 1048576) (hd : datas xs ≤ 1048576) :
    Calls Tryz.prog 5 #[.agg #[.slice a xs.length cap, .int .i64 q, .int .i64 fu]] w fun e w' => ∃ a' c', e = .returned (.agg #[.slice a' (vwE xs q fu).1.length c', .int .i64 (vwE xs q fu).2]) ∧ ResE w' w.heap.size a' (vwE xs q fu).1 ∧ Below w.heap.size w w' := by
  have hb0 : Below w.heap.size w ((w.alloc (.cells #[.slice a xs.length cap, .int .i64 q, .int .i64 fu] 32)).alloc (.cells #[.slice none 0 0, .int .i64 0] 28)) := ((Below.refl _ _).alloc (Nat.le_refl _) _).alloc (by simp) _
  have hr0 := box_new2 w (.cells #[.slice a xs.length cap, .int .i64 q, .int .i64 fu] 32) (.cells #[.slice none 0 0, .int .i64 0] 28)
  have hf0 : ((w.alloc (.cells #[.slice a xs.length cap, .int .i64 q, .int .i64 fu] 32)).alloc (.cells #[.slice none 0 0, .int .i64 0] 28)).heap[w.heap.size]? = some (.cells #[.slice a xs.length cap, .int .i64 q, .int .i64 fu] 32 (0, 0)) := (Below.heap_alloc _ _ _ (by simp)).trans (World.heap_alloc_new _ _)
  have hs0 : ((w.alloc (.cells #[.slice a xs.length cap, .int .i64 q, .int .i64 fu] 32)).alloc (.cells #[.slice none 0 0, .int .i64 0] 28)).heap.size = w.heap.size + 2 := by simp
  have HV := hdV (specValid_any a cap xs q fu _ (hx.below hb0) hf hlen hd)
  go_enter Tryz.func5, Tryz.ntmps5
  go_wp2_with fail
  refine HV.out.mono ?_
  rintro e w1 ⟨rfl, hb1⟩
  have hr1 := keepBox hb1 (by omega) hr0
  have hf1 := keepBox hb1 (by omega) hf0
  have hbw1 := hb0.trans (hb1.mono hb0.size)
  have hsz1 : w.heap.size + 2 ≤ w1.heap.size := by have := hb1.size; omega
  clear hb1 hb0 hr0 hf0 hs0 HV
  obtain ⟨f0, f1, f2⟩ := three_cellsV hf1
  cases hvd : vldB xs q fu with
  | false =>
    obtain ⟨⟨r0, r1⟩, r2, r3⟩ := two_cellsV hr1
    have HVe := hdV (vwE_bad hvd)
    go_wp2_with fail
    refine bodyPost_ret (v := .agg #[.slice none 0 0, .int .i64 0]) (by simp [results, Tryz.results5, go_sem, r0, r1, r2, r3]) rfl ?_
    have h2 := (hbw1.setCell (p := ⟨w.heap.size + 1, 0, none⟩) (by simp) (.slice none 0 0)).setCell (p := ⟨w.heap.size + 1, 1, none⟩) (by simp) (.int .i64 0)
    rw [HVe.out]
    first | exact ⟨none, 0, rfl, .inl rfl, h2⟩ | exact ⟨none, ⟨0, rfl⟩, .inl rfl, h2⟩
  | true =>
    have hrise := rise_of_ok (vld_head hvd).2.1
    have hnm := vld_names hvd
    have HSt := hdV (l6Stage_any a cap xs q fu w1 (hx.below hbw1) hlen hrise hd)
    have HDt : Hid (∀ (w' : World), Below w1.heap.size w1 w' → Calls Tryz.prog 16 #[.agg #[.slice a xs.length cap, .int .i64 q, .int .i64 fu], .string ⟨#[114, 101, 112, 97, 105, 114, 46, 116, 97, 98]⟩] w' fun e w'' => ∃ b, e = .returned (.tuple #[.string (dtA xs tabB), .bool b]) ∧ Below w'.heap.size w' w'') := fun w' hb => (l1Data_any a cap xs q fu _ w' (hx.below (hbw1.trans (hb.mono hbw1.size))) hlen hrise).mono fun e w'' h => ⟨_, h.1, h.2⟩
    have HRT := hdV (fun (w' : World) => specRT_any (dtA xs tabB) w' (Nat.le_trans (dtA_size xs _) hd))
    have HLs := hdV (fun (w' : World) (hb : Below w1.heap.size w1 w') => l6Lists_any a cap xs q fu w' (hx.below (hbw1.trans (hb.mono hbw1.size))) hlen hnm hd)
    have HVs := hdV (vwE_stg (xs := xs) (q := q) (fu := fu) hvd)
    have HLA := hdV (lsA_cnt xs)
    have HEn : Hid (∀ e ∈ (lsA xs).flatten, e.ky.size ≤ maxLen) := fun e he => by
      have := ((entOk_iff e).1 (lsA_ent he)).1.2.1
      unfold maxLen
      omega
    clear hrise hnm
    generalize hVE : vwE xs q fu = VE at *
    have HEQ := hdV hVE
    clear hVE
    generalize dtA xs tabB = tb at *
    generalize stg xs = ST at *
    go_wp2_with fail
    refine HSt.out.mono ?_
    rintro e w2 ⟨rfl, hb2⟩
    have hs2 := hb2.size
    have hr2 := keepBox hb2 (by omega) hr1
    have hf2 := keepBox hb2 (by omega) hf1
    have hbw2 := hbw1.trans (hb2.mono hbw1.size)
    clear f0 f1 f2 HSt
    obtain ⟨f0, f1, f2⟩ := three_cellsV hf2
    rcases HVs.out with ⟨hst, hve⟩ | ⟨hst, hve⟩
    · have hst' : (0 : Int) < ((ST.1 : Nat) : Int) := by omega
      have HVE := hdV hve
      clear hve HVs HLs hst
      obtain ⟨sn, sm⟩ := ST
      go_wp2_with fail
      refine (HDt.out _ hb2).mono ?_
      rintro e w3 ⟨b3, rfl, hb3⟩
      have hs3 := hb3.size
      have hr3 := keepBox hb3 (by omega) hr2
      have hbw3 := hbw2.trans (hb3.mono hbw2.size)
      clear f0 f1 f2 HDt
      go_wp2_with fail
      refine (HRT.out _).mono ?_
      rintro e w4 ⟨a4, c4, rfl, hre4, hb4⟩
      have hr4 := keepBox hb4 (by omega) hr3
      have hbw4 := hbw3.trans (hb4.mono hbw3.size)
      obtain ⟨⟨r0, r1⟩, r2, r3⟩ := two_cellsV hr4
      have HE := hdV hre4
      have HB := hdV hbw4
      clear hre4 hbw4 hr4 hr3 hr2 hr1
      generalize rtL tb = ES at *
      go_wp2_with fail
      refine bodyPost_ret (v := .agg #[.slice a4 ES.length c4, .int .i64 sm]) (by simp [results, Tryz.results5, go_sem, r0, r1, r2, r3]) rfl ?_
      have h1 := ((HE.out.putV (b := w.heap.size + 1) (o := 0) (by omega) (.slice a4 ES.length c4)).putV (b := w.heap.size + 1) (o := 1) (by omega) (.int .i64 sm)).down (show w.heap.size ≤ w3.heap.size by omega)
      have h2 := (HB.out.setCell (p := ⟨w.heap.size + 1, 0, none⟩) (by simp) (.slice a4 ES.length c4)).setCell (p := ⟨w.heap.size + 1, 1, none⟩) (by simp) (.int .i64 sm)
      rw [HEQ.out, HVE.out]
      first | exact ⟨a4, c4, rfl, h1, h2⟩ | exact ⟨a4, ⟨c4, rfl⟩, h1, h2⟩
    · have hst' : ¬ (0 : Int) < ((ST.1 : Nat) : Int) := by omega
      have HVE := hdV hve
      clear hve HVs hst HDt HRT
      obtain ⟨sn, sm⟩ := ST
      go_wp2_with fail
      refine (HLs.out _ hb2).mono ?_
      rintro e w3 ⟨v3, L, rfl, hL, hO, hb3⟩
      have hs3 := hb3.size
      have hr3 := keepBox hb3 (by omega) hr2
      have hbw3 := hbw2.trans (hb3.mono hbw2.size)
      obtain ⟨a3, c3, hv3, hlie, -, -⟩ := hO.lie
      subst hv3
      have hfl : allE L = (lsA xs).flatten := by rw [allE_flat, hL]
      have hcc : cntL (lsA xs) = (lsA xs).length + (lsA xs).flatten.length := rfl
      have hLl : L.length = (lsA xs).length := by rw [← hL, List.length_map]
      have hcn := HLA.out
      have hl1 : L.length ≤ 1048576 := by omega
      have hl2 : (allE L).length ≤ 1048576 := by rw [hfl]; omega
      have HNw := hdV (fun (w' : World) (hb : Below w3.heap.size w3 w') => specNew_any a3 c3 L w' (hlie.below hb) hl1 hl2 (by rw [hfl]; exact HEn.out))
      have HVF : Hid (VE = (newE (allE L), lastE (allE L))) := by show _ = _; rw [HVE.out, hfl]
      have HLie := hdV hlie
      have HR3 := hdV hr3
      have HBW3 := hdV hbw3
      clear hL hO hb3 hfl hcc hLl hcn hr3 hbw3 hlie f0 f1 f2 hr2 hr1 hf1 hf2 HVE HLs
      go_wp2_with fail
      go_loopw [10, 11] (fun v10 v11 W => ∃ i : Nat, v11 = .int .i64 (i : Int) ∧ i ≤ L.length ∧ v10 = .int .i64 (lastE (allE (L.take i))) ∧ Hid (Below w3.heap.size w3 W)) (fun _ v11 _ => L.length - (intOf v11).toNat)
      case atStart => exact ⟨0, rfl, Nat.zero_le _, by rw [List.take_zero]; simp [allE, lastE], Below.refl _ _⟩
      case round =>
        obtain ⟨i, rfl, hi1, rfl, HB⟩ := hrel
        by_cases hA : i < L.length
        · have hA' : (i : Int) < (L.length : Int) := by omega
          rcases HLie.out.below HB.out with h | ⟨b, off, hab, hbl, hc⟩
          · rw [h] at hA; simp at hA
          subst hab
          obtain ⟨c0, hxe⟩ := hc i hA
          have HT := hdV (allE_take L i hA)
          have HXa : Hid (∀ W, Below w3.heap.size w3 W → W.cell? ⟨b, off + i, none⟩ = some (.slice (L.getD i lv0).a (L.getD i lv0).xs.length (L.getD i lv0).cap) ∧ LieE W (L.getD i lv0).a (L.getD i lv0).xs) := fun W hb => by
            rcases HLie.out.below hb with h | ⟨b', off', e, -, hc⟩
            · rw [h] at hA; simp at hA
            · cases e; exact hc i hA
          have hyl : (L.getD i lv0).xs.length ≤ 1048576 := by
            have h2 := allE_len L (i + 1)
            rw [HT.out, List.length_append] at h2
            omega
          clear hc hxe
          generalize allE (L.take i) = P0 at *
          generalize (L.getD i lv0).a = xa at *
          generalize (L.getD i lv0).cap = xc at *
          generalize (L.getD i lv0).xs = ys at *
          go_wp2_with fail
          go_loopw [10, 12] (fun v10 v12 W => ∃ j : Nat, v12 = .int .i64 (j : Int) ∧ j ≤ ys.length ∧ v10 = .int .i64 (lastE (P0 ++ ys.take j)) ∧ Hid (Below w3.heap.size w3 W)) (fun _ v12 _ => ys.length - (intOf v12).toNat)
          case atStart => exact ⟨0, rfl, Nat.zero_le _, by rw [List.take_zero, List.append_nil], HB⟩
          case round =>
            clear HB c0 hbl
            obtain ⟨j, rfl, hj1, rfl, HB⟩ := hrel
            obtain ⟨c0, hxe⟩ := HXa.out wr HB.out
            by_cases hC : j < ys.length
            · have hC' : (j : Int) < (ys.length : Int) := by omega
              obtain ⟨b2, off2, hab, hbl2, d0, d1, d2, d3⟩ := hxe.at hC
              subst hab
              have HTk : Hid (lastE (P0 ++ ys.take (j + 1)) = max (lastE (P0 ++ ys.take j)) (ys.getD j en0).sq) := by show _ = _; rw [take_snocE ys j hC, ← List.append_assoc, lastE_snoc]
              clear hxe
              generalize lastE (P0 ++ ys.take j) = lj at *
              generalize ys.getD j en0 = z at *
              by_cases hg : lj < z.sq
              · have hg' : z.sq > lj := hg
                have hmx : max lj z.sq = z.sq := by omega
                have HMx := hdV hmx
                clear hmx
                go_wp2_with fail
                refine ⟨⟨j + 1, by go_num, by omega, by rw [HTk.out, HMx.out], HB⟩, by simp only [intOf]; omega⟩
              · have hg' : ¬ z.sq > lj := by omega
                have hmx : max lj z.sq = lj := by omega
                have HMx := hdV hmx
                clear hmx
                go_wp2_with fail
                refine ⟨⟨j + 1, by go_num, by omega, by rw [HTk.out, HMx.out], HB⟩, by simp only [intOf]; omega⟩
            · have hC' : ¬ (j : Int) < (ys.length : Int) := by omega
              have hyt : ys.take j = ys := List.take_of_length_le (by omega)
              rw [hyt]
              clear hxe
              have HTt : Hid (lastE (P0 ++ ys) = lastE (allE (L.take (i + 1)))) := by show _ = _; rw [HT.out]
              generalize lastE (P0 ++ ys) = le at *
              go_wp2_with fail
              refine ⟨⟨i + 1, by go_num, by omega, by rw [HTt.out], HB⟩, by simp only [intOf]; omega⟩
        · have hA' : ¬ (i : Int) < (L.length : Int) := by omega
          have hit : L.take i = L := List.take_of_length_le (by omega)
          rw [hit]
          have HN := hdV (HNw.out wr HB.out)
          generalize lastE (allE L) = LE at *
          generalize newE (allE L) = Z at *
          go_wp2_with fail
          refine HN.out.mono ?_
          rintro e w5 ⟨a5, c5, rfl, hre5, hb5⟩
          have hs5 := hb5.size
          have hs4 := HB.out.size
          have hr5 := keepBox hb5 (by omega) (keepBox HB.out (by omega) HR3.out)
          have hbw5 := (HBW3.out.trans (HB.out.mono HBW3.out.size)).trans (hb5.mono (Nat.le_trans HBW3.out.size hs4))
          obtain ⟨⟨r0, r1⟩, r2, r3⟩ := two_cellsV hr5
          have HE := hdV hre5
          have HBf := hdV hbw5
          clear hre5 hbw5 hr5 hb5 HN
          go_wp2_with fail
          refine bodyPost_ret (v := .agg #[.slice a5 Z.length c5, .int .i64 LE]) (by simp [results, Tryz.results5, go_sem, r0, r1, r2, r3]) rfl ?_
          have h1 := ((HE.out.putV (b := w.heap.size + 1) (o := 0) (by omega) (.slice a5 Z.length c5)).putV (b := w.heap.size + 1) (o := 1) (by omega) (.int .i64 LE)).down (show w.heap.size ≤ wr.heap.size by omega)
          have h2 := (HBf.out.setCell (p := ⟨w.heap.size + 1, 0, none⟩) (by simp) (.slice a5 Z.length c5)).setCell (p := ⟨w.heap.size + 1, 1, none⟩) (by simp) (.int .i64 LE)
          rw [HEQ.out, HVF.out]
          first | exact ⟨a5, c5, rfl, h1, h2⟩ | exact ⟨a5, ⟨c5, rfl⟩, h1, h2⟩
end Go.Proofs.YtgmfjninimebmaaGreatDoor
namespace Go.Proofs.YtgmfjninimebmaaGreatDoor
open Go.RowKit Go.Maps
set_option linter.unusedVariables false
set_option linter.unusedSimpArgs false

/-- Below B the world is as it was, but for the blocks of a list. -/
structure But (ex : List Nat) (B : Nat) (w w' : World) : Prop where
  os : w'.os = w.os
  tape : w'.tape = w.tape
  output : w'.output = w.output
  size : w.heap.size ≤ w'.heap.size
  block : ∀ k, k < B → k ∉ ex → w'.heap[k]? = w.heap[k]?

theorem But.of {ex : List Nat} {B : Nat} {w w' : World} (h : Below B w w') : But ex B w w' := ⟨h.os, h.tape, h.output, h.size, fun k hk _ => h.block k hk⟩
theorem But.trans {ex : List Nat} {B : Nat} {a b c : World} (h : But ex B a b) (k : But ex B b c) : But ex B a c :=
  ⟨k.os.trans h.os, k.tape.trans h.tape, k.output.trans h.output, Nat.le_trans h.size k.size, fun i hi hn => (k.block i hi hn).trans (h.block i hi hn)⟩
theorem But.mono {ex : List Nat} {B B' : Nat} {w w' : World} (h : But ex B w w') (hB : B' ≤ B) : But ex B' w w' := ⟨h.os, h.tape, h.output, h.size, fun k hk => h.block k (Nat.lt_of_lt_of_le hk hB)⟩
theorem But.more {ex ex' : List Nat} {B : Nat} {w w' : World} (h : But ex B w w') (hs : ∀ k, k ∈ ex → k ∈ ex') : But ex' B w w' := ⟨h.os, h.tape, h.output, h.size, fun k hk hn => h.block k hk (fun e => hn (hs k e))⟩
theorem But.below {ex : List Nat} {B : Nat} {w w' : World} (h : But ex B w w') (hs : ∀ k, k ∈ ex → k < B → w'.heap[k]? = w.heap[k]?) : Below B w w' :=
  ⟨h.os, h.tape, h.output, h.size, fun k hk => by by_cases hn : k ∈ ex; exact hs k hn hk; exact h.block k hk hn⟩
theorem But.far {ex : List Nat} {B : Nat} {w w' : World} (h : But ex B w w') (hs : ∀ k, k ∈ ex → B ≤ k) : Below B w w' := h.below fun k hk hB => absurd (hs k hk) (by omega)
theorem But.setCell {ex : List Nat} {B : Nat} (w : World) {a : Addr} {v : Value} (ha : a.block ∈ ex) : But ex B w (w.setCell a v) :=
  ⟨rfl, rfl, rfl, by simp [World.setCell], fun k _ hn => Below.heap_setCell _ _ _ _ (fun e => hn (e ▸ ha))⟩
/-- The marks from k on. -/
def mkL (k n : Nat) : List Fl := (List.range n).map fun i => ⟨mt (k + 3 * i), mt (k + 3 * i + 1), ((k + 3 * i + 2 : Nat) : Int)⟩
theorem mkL_length (k n : Nat) : (mkL k n).length = n := by simp [mkL]
theorem mkL_at (k n i : Nat) (h : i < n) : (mkL k n).getD i fl0 = ⟨mt (k + 3 * i), mt (k + 3 * i + 1), ((k + 3 * i + 2 : Nat) : Int)⟩ := by simp [mkL, List.getD, h]

theorem Part.zero {w : World} {g n k : Nat} {xs : List Fl} (h : Part w g n xs k) (ys : List Fl) : Part w g n ys 0 := by
  obtain ⟨cs, h1, h2, _⟩ := h
  exact ⟨cs, h1, h2, fun i hi => absurd hi (Nat.not_lt_zero _)⟩

theorem part_step {W : World} {g n k : Nat} {xs : List Fl} {f : Fl} {cs : Array Value} (h1 : W.heap[g]? = some (.cells (((cs.setIfInBounds (k * 3) (.string f.nm)).setIfInBounds (k * 3 + 1) (.string f.dt)).setIfInBounds (k * 3 + 2) (.int .i64 f.sy)) 66 (0, 0))) (h2 : cs.size = n * 3)
    (h3 : ∀ i, i < k → cs[i * 3]? = some (.string (xs.getD i fl0).nm) ∧ cs[i * 3 + 1]? = some (.string (xs.getD i fl0).dt) ∧ cs[i * 3 + 2]? = some (.int .i64 (xs.getD i fl0).sy)) (hk : k < n) (hf : xs.getD k fl0 = f) : Part W g n xs (k + 1) := by
  refine ⟨_, h1, by simp [h2], fun i hi => ?_⟩
  by_cases hik : i = k
  · subst hik
    rw [hf]
    refine ⟨?_, ?_, ?_⟩
    · simp [Array.getElem?_setIfInBounds]; omega
    · simp [Array.getElem?_setIfInBounds]; omega
    · simp [Array.getElem?_setIfInBounds]; omega
  · obtain ⟨a0, a1, a2⟩ := h3 i (by omega)
    refine ⟨?_, ?_, ?_⟩
    · rw [Array.getElem?_setIfInBounds_ne (by omega), Array.getElem?_setIfInBounds_ne (by omega), Array.getElem?_setIfInBounds_ne (by omega)]; exact a0
    · rw [Array.getElem?_setIfInBounds_ne (by omega), Array.getElem?_setIfInBounds_ne (by omega), Array.getElem?_setIfInBounds_ne (by omega)]; exact a1
    · rw [Array.getElem?_setIfInBounds_ne (by omega), Array.getElem?_setIfInBounds_ne (by omega), Array.getElem?_setIfInBounds_ne (by omega)]; exact a2

set_option maxRecDepth 100000 in
set_option maxHeartbeats 2000000 in
theorem markFileS_row (g cap n k0 : Nat) (w : World) (ys : List Fl) (hn : n ≤ cap) (hn2 : n ≤ 1048576) (hk : 1 ≤ k0) (hk2 : k0 ≤ 4) (hp : Part w g cap ys 0) :
    Calls Tryz.prog 26 #[.slice (some ⟨g, 0, none⟩) n cap, .int .i64 k0] w fun e w' => e = .returned (.int .i64 (k0 + 3 * n : Nat)) ∧ Part w' g cap (mkL k0 n) n ∧ But [g] w.heap.size w w' := by
  have hgl := hp.lt
  go_enter Tryz.func26, Tryz.ntmps26
  go_wp2
  go_loopw [1, 5] (fun kk i wr => ∃ j : Nat, j ≤ n ∧ i = .int .i64 j ∧ kk = .int .i64 (k0 + 3 * j : Nat) ∧ Part wr g cap (mkL k0 n) j ∧ But [g] w.heap.size w wr) (fun _ i _ => n - (intOf i).toNat)
  case atStart => exact ⟨0, Nat.zero_le _, rfl, by simp, hp.zero _, But.of (Below.refl _ _)⟩
  case round =>
    obtain ⟨j, hj, rfl, rfl, hpj, hb⟩ := hrel
    by_cases hlt : j < n
    · obtain ⟨cs, h1, h2, h3⟩ := hpj
      have hfj := mkL_at k0 n j hlt
      go_wp2_with fail
      refine (markText_intE _ (k0 + 3 * j) (by omega) (by omega) (by omega) _).mono ?_
      rintro e w1 ⟨rfl, hb1⟩
      have hgr : g < wr.heap.size := Nat.lt_of_lt_of_le hgl hb.size
      have e1 := (hb1.block g hgr).trans h1
      obtain ⟨v0, c0⟩ := row_cell (o := j * 3) e1 (by omega)
      have z0 : w1.frozen? ⟨g, j * 3, none⟩ = false := by simp [World.frozen?, e1]
      have e2 := heap_setCell_same w1 g (j * 3) _ _ (.string (mt (k0 + 3 * j))) e1
      have hbut1 : But [g] w.heap.size w (w1.setCell ⟨g, j * 3, none⟩ (.string (mt (k0 + 3 * j)))) := (hb.trans (But.of (hb1.mono hb.size))).trans (But.setCell _ (by simp))
      have hg2 : g < (w1.setCell ⟨g, j * 3, none⟩ (.string (mt (k0 + 3 * j)))).heap.size := by have := hb1.size; simp; omega
      clear hb1 e1
      go_wp2_with fail
      refine (markText_intE _ (k0 + 3 * j + 1) (by omega) (by omega) (by omega) _).mono ?_
      rintro e w2 ⟨rfl, hb2⟩
      have e3 := (hb2.block g hg2).trans e2
      obtain ⟨v1, c1⟩ := row_cell (o := j * 3 + 1) e3 (by simp; omega)
      obtain ⟨v2, c2⟩ := row_cell (o := j * 3 + 2) e3 (by simp; omega)
      have z1 : w2.frozen? ⟨g, j * 3 + 1, none⟩ = false := by simp [World.frozen?, e3]
      have z2 : w2.frozen? ⟨g, j * 3 + 2, none⟩ = false := by simp [World.frozen?, e3]
      have e4 := heap_setCell_same w2 g (j * 3 + 1) _ _ (.string (mt (k0 + 3 * j + 1))) e3
      have e5 := heap_setCell_same _ g (j * 3 + 2) _ _ (.int .i64 ((k0 + 3 * j + 2 : Nat) : Int)) e4
      have hpart := part_step e5 h2 h3 (by omega) hfj
      have hbut2 : But [g] w.heap.size w ((w2.setCell ⟨g, j * 3 + 1, none⟩ (.string (mt (k0 + 3 * j + 1)))).setCell ⟨g, j * 3 + 2, none⟩ (.int .i64 ((k0 + 3 * j + 2 : Nat) : Int))) := ((hbut1.trans (But.of (hb2.mono hbut1.size))).trans (But.setCell _ (by simp))).trans (But.setCell _ (by simp))
      have e6 : ((k0 + 3 * j + 2 : Nat) : Int) = (k0 : Int) + 3 * j + 1 + 1 := by omega
      rw [e6] at hpart hbut2
      clear e2 e3 e4 e5 h1 h2 h3 hbut1 hb2 hfj e6 c0 z0
      go_wp2
      exact ⟨⟨j + 1, by omega, by go_num, by go_num, hpart, hbut2⟩, by simp [intOf]; omega⟩
    · obtain rfl : j = n := by omega
      go_wp2
      go_ret
      exact ⟨rfl, hpj, hb⟩

theorem rowE_lieV {w : World} {g : Nat} {xs : List En} (h : RowE w g xs.length xs xs.length) : LieE w (some ⟨g, 0, none⟩) xs := ResE.lie (base := 0) (.inr ⟨g, rfl, Nat.zero_le _, h⟩)
theorem OnlyG.belowV {g B : Nat} {w w' : World} (h : OnlyG g w w') (hB : B ≤ g) (hw : B ≤ w.heap.size) : Below B w w' := ⟨h.os, h.tape, h.output, h.size, fun j hj => h.block j (by omega) (by omega)⟩
/-- What lies below B. -/
def LieB (w : World) (B : Nat) (a : Option Addr) (xs : List En) : Prop := LieE w a xs ∧ (xs = [] ∨ ∃ b off, a = some ⟨b, off, none⟩ ∧ b < B)
theorem LieB.keep {w w' : World} {B : Nat} {a : Option Addr} {xs : List En} (h : LieB w B a xs) (hk : Below B w w') (hw : B ≤ w.heap.size) : LieB w' B a xs := by
  obtain ⟨h1, h2⟩ := h
  refine ⟨?_, h2⟩
  rcases h2 with h2 | ⟨b, off, rfl, hb⟩
  · exact .inl h2
  · rcases h1 with h1 | ⟨b', off', e, hlt, hc⟩
    · exact .inl h1
    · cases e
      refine .inr ⟨b, off, rfl, Nat.lt_of_lt_of_le hlt hk.size, fun i hi => ?_⟩
      obtain ⟨a0, a1, a2, a3⟩ := hc i hi
      have ke : ∀ o, w'.cell? ⟨b, o, none⟩ = w.cell? ⟨b, o, none⟩ := fun o => hk.cell (p := ⟨b, o, none⟩) hb
      exact ⟨(ke _).trans a0, (ke _).trans a1, (ke _).trans a2, (ke _).trans a3⟩
theorem LieE.toB {w : World} {a : Option Addr} {xs : List En} (h : LieE w a xs) : LieB w w.heap.size a xs := by
  refine ⟨h, ?_⟩
  rcases h with h1 | ⟨b, off, h1, h2, -⟩
  · exact .inl h1
  · exact .inr ⟨b, off, h1, h2⟩
/-- What is no row of entries stays. -/
def KeepT (w w' : World) : Prop := ∀ (j : Nat) (cs : Array Value) (t : TypeId) (fz : Nat × Nat), w.heap[j]? = some (.cells cs t fz) → t ≠ 50 → w'.heap[j]? = some (.cells cs t fz)
theorem markRes_any (a : Option Addr) (cap : Nat) (Z : List En) (B : Nat) (w : World) (h : ResE w B a Z) (hl : Z.length ≤ 1048576) (hB : B ≤ w.heap.size) :
    Calls Tryz.prog 27 #[.slice a Z.length cap, .int .i64 1] w fun e w' => e = .returned (.int .i64 ((1 + 4 * Z.length : Nat) : Int)) ∧ LieE w' a (mkEE 1 Z.length) ∧ Below B w w' ∧ KeepT w w' := by
  rcases h with h | ⟨g, rfl, hg, hr⟩
  · subst h
    refine (markEntryS_emptyE a cap 1 w).mono ?_
    rintro e w' ⟨rfl, rfl⟩
    exact ⟨rfl, .inl rfl, Below.refl _ _, fun j cs t fz h _ => h⟩
  · refine (markEntryS_rowE g cap Z.length 1 w [] (by omega) (by omega) (by omega) (hr.zero [])).mono ?_
    rintro e w' ⟨rfl, hr', ho⟩
    refine ⟨rfl, ?_, ho.belowV hg hB, fun j cs t fz h ht => (ho.block j (heap_lt h) (fun e => ?_)).trans h⟩
    · refine rowE_lieV ?_
      rw [mkE_lengthE]
      exact hr'
    · subst e
      obtain ⟨cs', hc, -⟩ := hr
      rw [hc] at h
      cases h
      exact ht rfl
theorem But.toBelow {g B : Nat} {w w' : World} (h : But [g] w.heap.size w w') (hB : B ≤ g) (hw : B ≤ w.heap.size) : Below B w w' := ⟨h.os, h.tape, h.output, h.size, fun k hk => h.block k (by omega) (by simp; omega)⟩
set_option maxRecDepth 100000 in
set_option maxHeartbeats 1000000 in
theorem markFS_mine (g n : Nat) (q fu : Int) (xs : List Fl) (w : World) (hn : n ≤ 1048576) (hp : Part w g n xs n) :
    Calls Tryz.prog 10 #[.agg #[.slice (some ⟨g, 0, none⟩) n n, .int .i64 q, .int .i64 fu], .int .i64 1] w fun e w' => e = .returned (.int .i64 ((1 + 3 * n : Nat) : Int)) ∧ But [g] w.heap.size w w' := by
  have hb0 : Below w.heap.size w (w.alloc (.cells #[.slice (some ⟨g, 0, none⟩) n n, .int .i64 q, .int .i64 fu] 32)) := (Below.refl _ _).alloc (Nat.le_refl _) _
  have HM := hdV (markFileS_row g n n 1 _ xs (Nat.le_refl _) hn (by omega) (by omega) ((hp.below hb0 hp.lt).zero xs))
  go_enter Tryz.func10, Tryz.ntmps10
  go_wp2_with fail
  refine HM.out.mono ?_
  rintro e w1 ⟨rfl, -, hb1⟩
  have hbb := (But.of (ex := [g]) hb0).trans (hb1.mono hb0.size)
  clear hb1 hb0 HM
  go_wp2
  go_ret
  exact ⟨rfl, hbb⟩
theorem fourV {Z : List En} (h : Z.length ≤ 1048576) : Z.length ≤ 1100000 := by omega
set_option maxRecDepth 100000 in
set_option maxHeartbeats 1000000 in
theorem eqSalv_same (a c : Option Addr) (cap cap' : Nat) (Z : List En) (z : Int) (w : World) (hx : LieE w a Z) (hy : LieE w c Z) (hl : Z.length ≤ 1048576) :
    Calls Tryz.prog 8 #[.agg #[.slice a Z.length cap, .int .i64 z], .agg #[.slice c Z.length cap', .int .i64 z]] w fun e w' => e = .returned (.bool true) ∧ Below w.heap.size w w' := by
  have hb0 : Below w.heap.size w ((w.alloc (.cells #[.slice a Z.length cap, .int .i64 z] 28)).alloc (.cells #[.slice c Z.length cap', .int .i64 z] 28)) := ((Below.refl _ _).alloc (Nat.le_refl _) _).alloc (by simp) _
  have h1 := box_new2 w (.cells #[.slice a Z.length cap, .int .i64 z] 28) (.cells #[.slice c Z.length cap', .int .i64 z] 28)
  have h0 : ((w.alloc (.cells #[.slice a Z.length cap, .int .i64 z] 28)).alloc (.cells #[.slice c Z.length cap', .int .i64 z] 28)).heap[w.heap.size]? = some (.cells #[.slice a Z.length cap, .int .i64 z] 28 (0, 0)) := (Below.heap_alloc _ _ _ (by simp)).trans (World.heap_alloc_new _ _)
  have hs : ((w.alloc (.cells #[.slice a Z.length cap, .int .i64 z] 28)).alloc (.cells #[.slice c Z.length cap', .int .i64 z] 28)).heap.size = w.heap.size + 2 := by simp
  have HE := hdV (eqEntryS_same a c cap cap' Z _ (hx.below hb0) (hy.below hb0) hl)
  generalize Z.length = n at *
  go_enter Tryz.func8, Tryz.ntmps8
  go_wp2_with fail
  refine HE.out.mono ?_
  rintro e w1 ⟨rfl, hb1⟩
  obtain ⟨⟨c0, c1⟩, -⟩ := two_cellsV (keepBox hb1 (by omega) h0)
  obtain ⟨⟨d0, d1⟩, -⟩ := two_cellsV (keepBox hb1 (by omega) h1)
  have hbw := hb0.trans (hb1.mono hb0.size)
  clear hb0 hb1 h0 h1 hs HE
  go_wp2_with fail
  go_ret
  exact ⟨rfl, hbw⟩
set_option maxRecDepth 100000 in
set_option maxHeartbeats 1000000 in
theorem markSalv_any (a : Option Addr) (cap : Nat) (Z : List En) (z : Int) (B : Nat) (w : World) (h : ResE w B a Z) (hl : Z.length ≤ 1048576) (hB : B ≤ w.heap.size) :
    Calls Tryz.prog 11 #[.agg #[.slice a Z.length cap, .int .i64 z], .int .i64 1] w fun e w' => e = .returned (.int .i64 ((1 + 4 * Z.length : Nat) : Int)) ∧ LieE w' a (mkEE 1 Z.length) ∧ Below B w w' ∧ KeepT w w' := by
  have hb0 : Below w.heap.size w (w.alloc (.cells #[.slice a Z.length cap, .int .i64 z] 28)) := (Below.refl _ _).alloc (Nat.le_refl _) _
  have HM := hdV (markRes_any a cap Z B _ (h.below hb0) hl (Nat.le_trans hB hb0.size))
  generalize Z.length = n at *
  go_enter Tryz.func11, Tryz.ntmps11
  go_wp2_with fail
  refine HM.out.mono ?_
  rintro e w1 ⟨rfl, hl1, hb1, hk1⟩
  have hbw := (hb0.mono hB).trans hb1
  have hkw : KeepT w w1 := fun j cs t fz h ht => hk1 j cs t fz (keepBox hb0 (heap_lt h) h) ht
  clear hb0 hb1 HM hk1
  go_wp2
  go_ret
  exact ⟨rfl, hl1, hbw, hkw⟩
set_option maxRecDepth 100000 in
set_option maxHeartbeats 1000000 in
theorem heldSalv_any (a : Option Addr) (cap n : Nat) (z : Int) (w : World) (hx : LieE w a (mkEE 1 n)) (hl : n ≤ 1048576) :
    Calls Tryz.prog 12 #[.agg #[.slice a n cap, .int .i64 z], .int .i64 1] w fun e w' => e = .returned (.int .i64 ((1 + 4 * n : Nat) : Int)) ∧ Below w.heap.size w w' := by
  have hb0 : Below w.heap.size w (w.alloc (.cells #[.slice a n cap, .int .i64 z] 28)) := (Below.refl _ _).alloc (Nat.le_refl _) _
  have HM := hdV (heldEntryS_rowE a cap n 1 _ (by omega) (by omega) (by omega) (hx.below hb0))
  go_enter Tryz.func12, Tryz.ntmps12
  go_wp2_with fail
  refine HM.out.mono ?_
  rintro e w1 ⟨rfl, hb1⟩
  have hbw := hb0.trans (hb1.mono hb0.size)
  obtain ⟨mm, hmm⟩ : ∃ mm : Nat, mm = 1 + 4 * n := ⟨_, rfl⟩
  rw [← hmm]
  have hnn : ¬ ((mm : Nat) : Int) < 0 := by omega
  have HMM := hdV hmm
  clear hb1 hb0 HM hmm
  go_wp2
  go_ret
  exact ⟨by rw [← HMM.out]; rfl, hbw⟩
end Go.Proofs.YtgmfjninimebmaaGreatDoor
namespace Go.Proofs.YtgmfjninimebmaaGreatDoor
open Go.RowKit Go.Maps
set_option linter.unusedVariables false
set_option linter.unusedSimpArgs false

theorem vwE_len {xs : List Fl} {q fu : Int} (hd : datas xs ≤ 1048576) : (vwE xs q fu).1.length ≤ 1048576 := by
  unfold vwE
  have h1 : (newE (lsA xs).flatten).length ≤ 1048576 := by
    have hc := lsA_cnt xs
    have hcc : cntL (lsA xs) = (lsA xs).length + (lsA xs).flatten.length := rfl
    have : (newE (lsA xs).flatten).length ≤ (lsA xs).flatten.length := by unfold newE; exact ddT_len _ _
    omega
  have h2 := rt_len (dtA xs tabB)
  split
  · split
    · simp only; omega
    · split
      · simp only; omega
      · exact h1
  · simp
set_option maxRecDepth 100000 in
set_option maxHeartbeats 8000000 in
theorem lawView_any (a : Option Addr) (cap : Nat) (xs : List Fl) (q fu : Int) (w : World) (hx : Lie w a xs) (hf : Fits xs) (hlen : xs.length ≤ maxLen) (hst : Steps w) :
    Calls Tryz.prog 3 #[.agg #[.slice a xs.length cap, .int .i64 q, .int .i64 fu]] w fun e w' => e = .returned (.bool true) ∧ Below w.heap.size w w' := by
  have hb0 : Below w.heap.size w (w.alloc (.cells #[.slice a xs.length cap, .int .i64 q, .int .i64 fu] 24)) := (Below.refl _ _).alloc (Nat.le_refl _) _
  have hA0 : (w.alloc (.cells #[.slice a xs.length cap, .int .i64 q, .int .i64 fu] 24)).heap[w.heap.size]? = some (.cells #[.slice a xs.length cap, .int .i64 q, .int .i64 fu] 24 (0, 0)) := World.heap_alloc_new _ _
  have hsz0 : (w.alloc (.cells #[.slice a xs.length cap, .int .i64 q, .int .i64 fu] 24)).heap.size = w.heap.size + 1 := by simp
  have HSz := hdV (szFS_any a cap xs q fu 1048576 _ (hx.below hb0) hf hlen (by decide) (by decide))
  go_enter Tryz.func3, Tryz.ntmps3
  go_wp2_with fail
  refine HSz.out.mono ?_
  rintro e w1 ⟨⟨r, rfl, hr1, hr2⟩, hb1⟩
  have hbw1 : Below w.heap.size w w1 := hb0.trans (hb1.mono hb0.size)
  have hA1 := keepBox hb1 (by omega) hA0
  clear hb0 hb1 hA0 hsz0 HSz
  rcases hr2 with rfl | ⟨hr0, hr⟩
  · go_wp2
    go_ret
    exact ⟨rfl, hbw1⟩
  · have hl : xs.length ≤ 1048576 := by omega
    have hd : datas xs ≤ 1048576 := by have := datas_le_bulk xs; omega
    clear hr hr1 hlen
    have HTo := hdV (fun (w' : World) (hb : Below w.heap.size w w') => toFS_any a cap xs q fu w' (hx.below hb) hl)
    have HSp := hdV (fun (g : Nat) (w' : World) (h : Part w' g xs.length xs xs.length) => specView_any (some ⟨g, 0, none⟩) xs.length xs q fu w' h.lie hf hl hd)
    have HIm := hdV (fun (g : Nat) (w' : World) (h : Lie w' (some ⟨g, 0, none⟩) xs) (hs : Steps w') => implView_any (some ⟨g, 0, none⟩) xs.length xs q fu w' h hf hl hd hs)
    have HEq := hdV (fun (g g' : Nat) (w' : World) (h : Lie w' (some ⟨g, 0, none⟩) xs) (h' : Lie w' (some ⟨g', 0, none⟩) xs) => eqFS_same (some ⟨g, 0, none⟩) (some ⟨g', 0, none⟩) xs.length xs.length xs q fu w' h h' hl)
    have HMk := hdV (fun (g : Nat) (w' : World) (h : Part w' g xs.length xs xs.length) => markFS_mine g xs.length q fu xs w' hl h)
    have hZl := vwE_len (q := q) (fu := fu) hd
    generalize (vwE xs q fu).1 = Z at *
    generalize (vwE xs q fu).2 = z at *
    have HES := hdV (fun (a c : Option Addr) (cp cp' : Nat) (w' : World) (h : LieE w' a Z) (h' : LieE w' c Z) => eqSalv_same a c cp cp' Z z w' h h' hZl)
    obtain ⟨A0, A1, A2⟩ := three_cellsV hA1
    have hsA := heap_lt hA1
    go_wp2_with fail
    refine (HTo.out _ hbw1).mono ?_
    rintro e w2 ⟨g2, rfl, hg2, hp2, hb2⟩
    have hbw2 := hbw1.trans (hb2.mono hbw1.size)
    have hA2 := keepBox hb2 hsA hA1
    clear A0 A1 A2 hb2 hbw1 hg2
    have HC := hdV (HSp.out g2 w2 hp2)
    clear hp2 HSp
    go_wp2_with fail
    refine HC.out.mono ?_
    rintro e w3 ⟨a3, c3, rfl, hre3, hb3⟩
    have hbw3 := hbw2.trans (hb3.mono hbw2.size)
    have hA3 := keepBox hb3 (heap_lt hA2) hA2
    have hb34 : Below w3.heap.size w3 (w3.alloc (.cells #[.slice a3 Z.length c3, .int .i64 z] 28)) := (Below.refl _ _).alloc (Nat.le_refl _) _
    have hW4 : (w3.alloc (.cells #[.slice a3 Z.length c3, .int .i64 z] 28)).heap[w3.heap.size]? = some (.cells #[.slice a3 Z.length c3, .int .i64 z] 28 (0, 0)) := World.heap_alloc_new _ _
    have hA4 := keepBox hb34 (heap_lt hA3) hA3
    have hbw4 := hbw3.trans (hb34.mono hbw3.size)
    have HL4 := hdV (hre3.below hb34).lie.toB
    have hs34 : w3.heap.size < (w3.alloc (.cells #[.slice a3 Z.length c3, .int .i64 z] 28)).heap.size := by simp
    have hsw3 : w.heap.size < w3.heap.size := heap_lt hA3
    obtain ⟨A0, A1, A2⟩ := three_cellsV hA4
    clear hb3 hbw2 hA2 hA1 hre3 hb34 hbw3 hA3 HC
    go_wp2_with fail
    generalize w3.alloc (.cells #[.slice a3 Z.length c3, .int .i64 z] 28) = w4 at *
    refine (HTo.out _ hbw4).mono ?_
    rintro e w5 ⟨g5, rfl, hg5, hp5, hb5⟩
    have hb56 : Below w5.heap.size w5 (w5.alloc (.cells #[.slice (some ⟨g5, 0, none⟩) xs.length xs.length, .int .i64 q, .int .i64 fu] 32)) := (Below.refl _ _).alloc (Nat.le_refl _) _
    have hX6 : (w5.alloc (.cells #[.slice (some ⟨g5, 0, none⟩) xs.length xs.length, .int .i64 q, .int .i64 fu] 32)).heap[w5.heap.size]? = some (.cells #[.slice (some ⟨g5, 0, none⟩) xs.length xs.length, .int .i64 q, .int .i64 fu] 32 (0, 0)) := World.heap_alloc_new _ _
    have hg5l := hp5.lt
    have hp6 := hp5.below hb56 hg5l
    have hK6 := hb5.trans (hb56.mono hb5.size)
    have hs56 : w5.heap.size < (w5.alloc (.cells #[.slice (some ⟨g5, 0, none⟩) xs.length xs.length, .int .i64 q, .int .i64 fu] 32)).heap.size := by simp
    have hs45 := hb5.size
    have hbw6 := hbw4.trans (hK6.mono hbw4.size)
    clear A0 A1 A2 hb5 hb56 hp5
    obtain ⟨X0, X1, X2⟩ := three_cellsV hX6
    go_wp2_with fail
    generalize w5.alloc (.cells #[.slice (some ⟨g5, 0, none⟩) xs.length xs.length, .int .i64 q, .int .i64 fu] 32) = w6 at *
    refine (HIm.out g5 w6 hp6.lie (hst.below hbw6)).mono ?_
    rintro e w7 ⟨a7, c7, rfl, hre7, hb7⟩
    have hb78 : Below w7.heap.size w7 (w7.alloc (.cells #[.slice a7 Z.length c7, .int .i64 z] 28)) := (Below.refl _ _).alloc (Nat.le_refl _) _
    have hG8 : (w7.alloc (.cells #[.slice a7 Z.length c7, .int .i64 z] 28)).heap[w7.heap.size]? = some (.cells #[.slice a7 Z.length c7, .int .i64 z] 28 (0, 0)) := World.heap_alloc_new _ _
    have hre8 := hre7.below hb78
    have hK68 := hb7.trans (hb78.mono hb7.size)
    have hs67 := hb7.size
    have hs78 : w7.heap.size < (w7.alloc (.cells #[.slice a7 Z.length c7, .int .i64 z] 28)).heap.size := by simp
    have hK8 := hK6.trans (hK68.mono (by omega))
    have hX8 := keepBox hK68 hs56 hX6
    have hp8 := hp6.below hK68 (by omega)
    have hW8 := keepBox hK8 hs34 hW4
    have hA8 := keepBox hK8 (by omega) hA4
    obtain ⟨⟨W0, W1⟩, -⟩ := two_cellsV hW8
    obtain ⟨⟨G0, G1⟩, -⟩ := two_cellsV hG8
    clear X0 X1 X2 hb7 hb78 hre7 hX6 hp6 hbw6 hK6
    have HC := hdV (HES.out a7 a3 c7 c3 _ hre8.lie (HL4.out.keep hK8 (Nat.le_refl _)).1)
    go_wp2_with fail
    generalize w7.alloc (.cells #[.slice a7 Z.length c7, .int .i64 z] 28) = w8 at *
    refine HC.out.mono ?_
    rintro e w9 ⟨rfl, hb9⟩
    have hs89 := hb9.size
    have hK9 := hK8.trans (hb9.mono (by omega))
    have hX9 := keepBox hb9 (by omega) hX8
    have hp9 := hp8.below hb9 (by omega)
    have hG9 := keepBox hb9 hs78 hG8
    have hA9 := keepBox hb9 (by omega) hA8
    have hre9 := hre8.below hb9
    have hbw9 := hbw4.trans (hK9.mono hbw4.size)
    have HK9 := hdV hK9
    have HX9 := hdV hX9
    have HP9 := hdV hp9
    have HG9 := hdV hG9
    have HA9 := hdV hA9
    have HRE9 := hdV hre9
    obtain ⟨c0, c1, c2⟩ := three_cellsV hA9
    obtain ⟨e0, e1, e2⟩ := three_cellsV hX9
    have s3 := heap_lt hA9
    have s2 := heap_lt hX9
    have hx9l := hp9.lie.below (Below.refl _ w9).drew
    have hbw9d := hbw9.drew
    clear HC hb9 hX8 hp8 hG8 hA8 hre8 hK8 hK68 W0 W1 G0 G1 hK9 hX9 hp9 hG9 hA9 hre9 hW8
    go_wp2_with fail
    go_region_held3 (fun w' => w'.cell? ⟨w.heap.size, 0, none⟩ = some (.slice a xs.length cap) ∧ w'.cell? ⟨w.heap.size, 1, none⟩ = some (.int .i64 q) ∧ w'.cell? ⟨w.heap.size, 2, none⟩ = some (.int .i64 fu) ∧ w'.cell? ⟨w5.heap.size, 0, none⟩ = some (.slice (some ⟨g5, 0, none⟩) xs.length xs.length) ∧ w'.cell? ⟨w5.heap.size, 1, none⟩ = some (.int .i64 q) ∧ w'.cell? ⟨w5.heap.size, 2, none⟩ = some (.int .i64 fu)) (simp [go_sem, *])
      (first
        | (go_at_call 6; refine (HTo.out _ hbw9d).mono ?_; rintro e w10 ⟨g4, rfl, hg4, hp4, hb10⟩;
           have k0 := (hb10.cell (p := ⟨w.heap.size, 0, none⟩) s3).trans c0; have k1 := (hb10.cell (p := ⟨w.heap.size, 1, none⟩) s3).trans c1; have k2 := (hb10.cell (p := ⟨w.heap.size, 2, none⟩) s3).trans c2;
           have l0 := (hb10.cell (p := ⟨w5.heap.size, 0, none⟩) s2).trans e0; have l1 := (hb10.cell (p := ⟨w5.heap.size, 1, none⟩) s2).trans e1; have l2 := (hb10.cell (p := ⟨w5.heap.size, 2, none⟩) s2).trans e2;
           have HB10 : Hid (Below w9.heap.size w9 w10) := (Below.refl _ w9).drew.trans hb10; have hy10 := hx9l.below hb10; have hp5 := hp4.lie;
           have s4 := Nat.lt_of_lt_of_le s3 hb10.size; have s5 := Nat.lt_of_lt_of_le s2 hb10.size; clear hb10 hp4 hg4)
        | (go_at_call 9; refine (HEq.out _ _ _ hy10 hp5).mono ?_; rintro e w11 ⟨rfl, hb11⟩;
           have m0 := (hb11.cell (p := ⟨w.heap.size, 0, none⟩) s4).trans k0; have m1 := (hb11.cell (p := ⟨w.heap.size, 1, none⟩) s4).trans k1; have m2 := (hb11.cell (p := ⟨w.heap.size, 2, none⟩) s4).trans k2;
           have n0 := (hb11.cell (p := ⟨w5.heap.size, 0, none⟩) s5).trans l0; have n1 := (hb11.cell (p := ⟨w5.heap.size, 1, none⟩) s5).trans l1; have n2 := (hb11.cell (p := ⟨w5.heap.size, 2, none⟩) s5).trans l2;
           have HB11 : Hid (Below w9.heap.size w9 w11) := HB10.out.trans (hb11.mono HB10.out.size)))
    clear k0 k1 k2 l0 l1 l2 m0 m1 m2 n0 n1 n2 c0 c1 c2 e0 e1 e2 s2 s3 s4 s5 hx9l hbw9d hy10 hp5 HB10 hb11
    have hb11 := HB11.out
    have hsw := hb11.size
    have hX11 := keepBox hb11 (by omega) HX9.out
    have hp11 := HP9.out.below hb11 (by omega)
    have hG11 := keepBox hb11 (by omega) HG9.out
    have hre11 := HRE9.out.below hb11
    have hK11 := HK9.out.trans (hb11.mono (by omega))
    have HG11 := hdV hG11
    have HRE11 := hdV hre11
    have HK11 := hdV hK11
    have HC := hdV (HMk.out g5 w11 hp11)
    obtain ⟨X0, X1, X2⟩ := three_cellsV hX11
    clear HB11 hb11 HX9 HP9 HG9 HA9 HRE9 HK9 hX11 hp11 hG11 hre11 hK11 HEq HMk
    go_wp2_with fail
    refine HC.out.mono ?_
    rintro e w12 ⟨rfl, hbt⟩
    have hs12 := hbt.size
    have hG12 : w12.heap[w7.heap.size]? = some (.cells #[.slice a7 Z.length c7, .int .i64 z] 28 (0, 0)) := (hbt.block _ (by omega) (by simp; omega)).trans HG11.out
    have hre12 : ResE w12 w6.heap.size a7 Z := HRE11.out.kept (fun k h1 h2 => hbt.block k h2 (by simp; omega))
    have hK12 : Below w4.heap.size w4 w12 := HK11.out.trans (hbt.toBelow hg5 (by omega))
    have hW12 := keepBox hK12 hs34 hW4
    obtain ⟨⟨W0, W1⟩, -⟩ := two_cellsV hW12
    obtain ⟨⟨G0, G1⟩, -⟩ := two_cellsV hG12
    have HG12 := hdV hG12
    have HRE12 := hdV hre12
    have HK12 := hdV hK12
    have HC2 := hdV (HES.out a7 a3 c7 c3 _ hre12.lie (HL4.out.keep hK12 (Nat.le_refl _)).1)
    obtain ⟨mm, hmm⟩ : ∃ mm : Nat, mm = 1 + 3 * xs.length := ⟨_, rfl⟩
    rw [← hmm]
    have hm0 : ¬ ((mm : Nat) : Int) < 0 := by omega
    have hm0d : decide (((mm : Nat) : Int) < 0) = false := by simp
    clear hbt HG11 HRE11 HK11 HC hmm X0 X1 X2 hG12 hre12 hK12 hW12
    go_wp2_with fail
    refine HC2.out.mono ?_
    rintro e w13 ⟨rfl, hb13⟩
    have hs13 := hb13.size
    have hG13 := keepBox hb13 (by omega) HG12.out
    have hre13 := HRE12.out.below hb13
    have hK13 := HK12.out.trans (hb13.mono (by omega))
    obtain ⟨⟨G0', G1'⟩, -⟩ := two_cellsV hG13
    have HC3 := hdV (markSalv_any a7 c7 Z z w6.heap.size w13 hre13 hZl (by omega))
    have HG13 := hdV hG13
    have HK13 := hdV hK13
    clear hb13 HC2 HG12 HRE12 HK12 hG13 hre13 hK13 W0 W1 G0 G1
    go_wp2_with fail
    refine HC3.out.mono ?_
    rintro e w14 ⟨rfl, hl14, hb14, hk14⟩
    have hs14 := hb14.size
    have hG14 := hk14 _ _ _ _ HG13.out (by decide)
    have hK14 := HK13.out.trans (hb14.mono (by omega))
    obtain ⟨⟨G0, G1⟩, -⟩ := two_cellsV hG14
    have HC4 := hdV (heldSalv_any a7 c7 Z.length z w14 hl14 hZl)
    have HK14 := hdV hK14
    obtain ⟨m4, hm4⟩ : ∃ m4 : Nat, m4 = 1 + 4 * Z.length := ⟨_, rfl⟩
    rw [← hm4] at HC4 ⊢
    have hm40 : ¬ ((m4 : Nat) : Int) < 0 := by omega
    clear hb14 hk14 HC3 HG13 HK13 hG14 hK14 hl14 hm4 G0' G1'
    go_wp2_with fail
    refine HC4.out.mono ?_
    rintro e w15 ⟨rfl, hb15⟩
    have hs15 := hb15.size
    have hK15 := HK14.out.trans (hb15.mono (by omega))
    have hA15 := keepBox hK15 (by omega) hA4
    have hbw15 := hbw4.trans (hK15.mono hbw4.size)
    obtain ⟨A0, A1, A2⟩ := three_cellsV hA15
    have HK15 := hdV hK15
    have HB15 := hdV hbw15
    clear hb15 HC4 HK14 hK15 hA15 hbw15 G0 G1
    go_wp2_with fail
    refine (HTo.out _ HB15.out).mono ?_
    rintro e w16 ⟨g16, rfl, hg16, hp16, hb16⟩
    have hs16 := hb16.size
    have hK16 := HK15.out.trans (hb16.mono (by omega))
    have hbw16 := hbw4.trans (hK16.mono hbw4.size)
    have HC5 := hdV (HIm.out g16 w16 hp16.lie (hst.below hbw16))
    have HK16 := hdV hK16
    clear hb16 HK15 HB15 hp16 hK16 hbw16 A0 A1 A2
    go_wp2_with fail
    refine HC5.out.mono ?_
    rintro e w17 ⟨a17, c17, rfl, hre17, hb17⟩
    have hb18 : Below w17.heap.size w17 (w17.alloc (.cells #[.slice a17 Z.length c17, .int .i64 z] 28)) := (Below.refl _ _).alloc (Nat.le_refl _) _
    have hH18 : (w17.alloc (.cells #[.slice a17 Z.length c17, .int .i64 z] 28)).heap[w17.heap.size]? = some (.cells #[.slice a17 Z.length c17, .int .i64 z] 28 (0, 0)) := World.heap_alloc_new _ _
    have hs17 := hb17.size
    have hK17 := HK16.out.trans (hb17.mono (by omega))
    have hK18 := hK17.trans (hb18.mono (by omega))
    have hW18 := keepBox hK18 hs34 hW4
    obtain ⟨⟨W0, W1⟩, -⟩ := two_cellsV hW18
    obtain ⟨⟨H0, H1⟩, -⟩ := two_cellsV hH18
    have HC6 := hdV (HES.out a17 a3 c17 c3 _ (hre17.below hb18).lie (HL4.out.keep hK18 (Nat.le_refl _)).1)
    have HB18 := hdV (hbw4.trans (hK18.mono hbw4.size))
    clear hb17 hb18 HK16 hre17 hK17 hK18 hW18 hH18 HC5
    go_wp2_with fail
    refine HC6.out.mono ?_
    rintro e w19 ⟨rfl, hb19⟩
    have hbw19 := HB18.out.trans (hb19.mono HB18.out.size)
    clear hb19 HC6 HB18
    go_wp2_with fail
    go_ret
    exact ⟨rfl, hbw19⟩
end Go.Proofs.YtgmfjninimebmaaGreatDoor
