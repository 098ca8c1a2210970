import Derived.Test.YtohpfjpgihcmiaaGreatDoorLpD

namespace Go.Proofs.YtohpfjpgihcmiaaGreatDoor
open Go.RowKit Go.Maps
set_option linter.unusedVariables false
set_option linter.unusedSimpArgs false

/-- The marks of operations, one after the other. -/
def mks : Nat → List OpW → List OpW
  | _, [] => []
  | k, x :: r => mkX x k :: mks (nxK x k) r
def enK : Nat → List OpW → Nat
  | k, [] => k
  | k, x :: r => enK (nxK x k) r
theorem mks_length (k : Nat) (os : List OpW) : (mks k os).length = os.length := by
  induction os generalizing k with
  | nil => rfl
  | cons x r ih => simp [mks, ih]
theorem mks_snoc (k : Nat) (pre : List OpW) (x : OpW) : mks k (pre ++ [x]) = mks k pre ++ [mkX x (enK k pre)] := by
  induction pre generalizing k with
  | nil => rfl
  | cons y r ih => simp [mks, enK, ih]
theorem enK_snoc (k : Nat) (pre : List OpW) (x : OpW) : enK k (pre ++ [x]) = nxK x (enK k pre) := by
  induction pre generalizing k with
  | nil => rfl
  | cons y r ih => simp [enK, ih]
theorem enK_le (k : Nat) (pre : List OpW) (h : ∀ x ∈ pre, x.o.bt.length ≤ 80000 ∧ x.o.kp.length ≤ 80000) : enK k pre ≤ k + 400004 * pre.length ∧ k ≤ enK k pre := by
  induction pre generalizing k with
  | nil => simp [enK]
  | cons y r ih =>
    have h1 := h y (by simp)
    have h2 := ih (nxK y k) (fun x hx => h x (by simp [hx]))
    simp only [enK, List.length_cons]
    unfold nxK at *
    omega
theorem mid_getD (pre rest : List OpW) (x : OpW) : (pre ++ x :: rest).getD pre.length ow0 = x := by simp [List.getD]
theorem mid_set (pre rest : List OpW) (x y : OpW) : (pre ++ x :: rest).set pre.length y = pre ++ y :: rest := by simp
theorem mks_step (k : Nat) (pre rest : List OpW) (x : OpW) : (mks k pre ++ x :: rest).set pre.length (mkX x (enK k pre)) = mks k (pre ++ [x]) ++ rest := by
  rw [mks_snoc, ← mks_length k pre, mid_set]
  simp
theorem OnlyE.below {w w' : World} {c : Option Addr} {n : Nat} {P : Nat → Prop} {B : Nat} (h : OnlyE w w' c n P) (hc : ∀ g, c = some ⟨g, 0, none⟩ → 0 < n → B ≤ g) (hB : B ≤ w.heap.size) : Below B w w' := by
  rcases h with ⟨-, rfl⟩ | ⟨g, rfl, h0, ho, -⟩
  · exact Below.refl _ _
  · exact ho.below (hc g rfl h0) hB
theorem OnlyE.block {w w' : World} {c : Option Addr} {n G : Nat} {P : Nat → Prop} (h : OnlyE w w' c n P) (hG : G < w.heap.size) (hc : ∀ g, c = some ⟨g, 0, none⟩ → 0 < n → G ≠ g) : w'.heap[G]? = w.heap[G]? := by
  rcases h with ⟨-, rfl⟩ | ⟨g, rfl, h0, ho, -⟩
  · rfl
  · exact ho.block G hG (hc g rfl h0)
theorem ResE.big {w : World} {B : Nat} {c : Option Addr} {bt : List En} (hr : ResE w B c bt) : ∀ g, c = some ⟨g, 0, none⟩ → 0 < bt.length → B ≤ g ∧ ∃ cs, w.heap[g]? = some (.cells cs 51 (0, 0)) := by
  intro g hg h0
  rcases hr with h1 | ⟨g', e, hB', cs, h1, -⟩
  · rw [h1] at h0; simp at h0
  · rw [hg] at e
    cases e
    exact ⟨hB', cs, h1⟩
theorem ResI.big {w : World} {B : Nat} {c : Option Addr} {kp : List Int} (hr : ResI w B c kp) : ∀ g, c = some ⟨g, 0, none⟩ → 0 < kp.length → B ≤ g ∧ ∃ cs, w.heap[g]? = some (.cells cs 3 (0, 0)) := by
  intro g hg h0
  rcases hr with h1 | ⟨g', e, hB', cs, h1, -⟩
  · rw [h1] at h0; simp at h0
  · rw [hg] at e
    cases e
    exact ⟨hB', cs, h1⟩
theorem OnlyE.keepG {w w' : World} {B G : Nat} {c : Option Addr} {bt : List En} {P : Nat → Prop} {cs : Array Value} {t : TypeId} (h : OnlyE w w' c bt.length P) (hr : ResE w B c bt) (hG : w.heap[G]? = some (.cells cs t (0, 0))) (ht : t ≠ 51) : w'.heap[G]? = some (.cells cs t (0, 0)) := by
  refine (h.block (heap_lt hG) (fun g hg h0 e => ?_)).trans hG
  obtain ⟨-, cs', h1⟩ := hr.big g hg h0
  subst e
  rw [h1] at hG
  simp at hG
  exact ht hG.2.symm
theorem ResI.onlyE {w w' : World} {B : Nat} {c d : Option Addr} {bt : List En} {kp : List Int} {P : Nat → Prop} (hI : ResI w B d kp) (h : OnlyE w w' c bt.length P) (hr : ResE w B c bt) : ResI w' B d kp := by
  rcases h with ⟨-, rfl⟩ | ⟨g, rfl, h0, ho, -⟩
  · exact hI
  · obtain ⟨-, cs', h1⟩ := hr.big g rfl h0
    exact hI.onlyT ho h1 (by decide)
/-- Scripts in blocks of their own stay. -/
def Kp (w w' : World) : Prop := ∀ (b : Nat) (cs : Array Value), w.heap[b]? = some (.cells cs 24 (0, 0)) → w'.heap[b]? = some (.cells cs 24 (0, 0))
theorem Kp.refl (w : World) : Kp w w := fun _ _ h => h
theorem Kp.trans {a b c : World} (h : Kp a b) (k : Kp b c) : Kp a c := fun p cs hp => k p cs (h p cs hp)
theorem Kp.of {w w' : World} (h : Below w.heap.size w w') : Kp w w' := fun b cs hb => (h.block b (heap_lt hb)).trans hb
theorem Kp.only {w w' : World} {G : Nat} {cs : Array Value} (h : Only G w w') (hG : w.heap[G]? = some (.cells cs 38 (0, 0))) : Kp w w' := fun b cs' hb => (h.block b (heap_lt hb) (fun e => by
  subst e
  rw [hG] at hb
  simp at hb)).trans hb
theorem Kp.onlyE {w w' : World} {B : Nat} {c : Option Addr} {bt : List En} {P : Nat → Prop} (h : OnlyE w w' c bt.length P) (hr : ResE w B c bt) : Kp w w' := fun b cs hb => h.keepG hr hb (by decide)
theorem Kp.onlyI {w w' : World} {B : Nat} {c : Option Addr} {kp : List Int} {P : Nat → Prop} (h : OnlyE w w' c kp.length P) (hr : ResI w B c kp) : Kp w w' := fun b cs hb => by
  refine (h.block (heap_lt hb) (fun g hg h0 e => ?_)).trans hb
  obtain ⟨-, cs', h1⟩ := hr.big g hg h0
  subst e
  rw [h1] at hb
  simp at hb
set_option maxRecDepth 100000 in
set_option maxHeartbeats 8000000 in
theorem markOpS_row (G B cap k0 : Nat) (os : List OpW) (w : World) (h : MkO w G B os) (hl : os.length ≤ 2000) (hsm : ∀ x ∈ os, x.o.bt.length ≤ 80000 ∧ x.o.kp.length ≤ 80000) (h01 : 1 ≤ k0) (hk0 : k0 ≤ 1000) (hBw : B ≤ w.heap.size) :
    Calls Tryz.prog 18 #[.slice (some ⟨G, 0, none⟩) os.length cap, .int .i64 k0] w fun e w' => e = .returned (.int .i64 ((enK k0 os : Nat) : Int)) ∧ MkO w' G B (mks k0 os) ∧ Below B w w' ∧ Kp w w' := by
  go_enter Tryz.func18, Tryz.ntmps18
  go_wp2_with fail
  go_loopw [1, 5] (fun v1 v5 W => ∃ (pre rest : List OpW) (i K : Nat), v5 = .int .i64 (i : Int) ∧ v1 = .int .i64 (K : Int) ∧ Hid (i = pre.length) ∧ Hid (K = enK k0 pre) ∧ Hid (os = pre ++ rest) ∧ Hid (MkO W G B (mks k0 pre ++ rest)) ∧ Hid (Below B w W) ∧ Hid (Kp w W)) (fun _ v5 _ => os.length - (intOf v5).toNat)
  case atStart => exact ⟨[], os, 0, k0, rfl, rfl, rfl, rfl, rfl, h, Below.refl _ _, Kp.refl _⟩
  case round =>
    clear h
    obtain ⟨pre, rest, i, K, rfl, rfl, HIP, HK, HOS, HM, HB, HKP⟩ := hrel
    have hlen : os.length = i + rest.length := by rw [HOS.out, List.length_append, HIP.out]
    cases rest with
    | nil =>
      have hil : ¬ (i : Int) < (os.length : Int) := by rw [hlen]; simp
      clear hlen
      go_wp2_with fail
      go_ret
      have e : os = pre := by have := HOS.out; rwa [List.append_nil] at this
      have hm := HM.out
      rw [List.append_nil] at hm
      refine ⟨?_, ?_, HB.out, HKP.out⟩
      · rw [e, ← HK.out]; rfl
      · rw [e]; exact hm
    | cons x rest =>
      have hil : (i : Int) < (os.length : Int) := by rw [hlen]; simp; omega
      have HLEN := hdN hlen
      clear hlen
      have hxm : x.o.bt.length ≤ 80000 ∧ x.o.kp.length ≤ 80000 := hsm x (by rw [HOS.out]; simp)
      have hKb : K ≤ 850000000 ∧ 1 ≤ K := by
        have h1 := enK_le k0 pre (fun y hy => hsm y (by rw [HOS.out]; simp [hy]))
        have h2 : pre.length ≤ 2000 := by rw [← HIP.out]; have := HLEN.out; omega
        rw [HK.out]
        omega
      obtain ⟨hK1, hK2⟩ := hKb
      have hgx : (mks k0 pre ++ x :: rest).getD i ow0 = x := by rw [HIP.out, ← mks_length k0 pre]; exact mid_getD _ _ _
      have hix : i < (mks k0 pre ++ x :: rest).length := by rw [List.length_append, mks_length, HIP.out]; simp
      obtain ⟨cs, h1, h2, h3⟩ := HM.out.blk
      obtain ⟨c, ccap, hc, hrc⟩ := HM.out.rE i hix
      obtain ⟨d, dcap, hd, hrd⟩ := HM.out.rI i hix
      have HC4 := hdN (cells4 (k := K) hix h2 h3)
      have hll : (mks k0 pre ++ x :: rest).length = os.length := by rw [HOS.out, List.length_append, List.length_append, mks_length]
      have hsz : i * 6 + 5 < cs.size := by omega
      have v4 := h3 i hix 4 (by omega)
      have v5 := h3 i hix 5 (by omega)
      rw [hgx] at v4 v5 hc hd hrc hrd
      have v4' : cs[i * 6 + 4]? = some (.slice c x.o.bt.length ccap) := by rw [v4, ← hc]; rfl
      have v5' : cs[i * 6 + 5]? = some (.slice d x.o.kp.length dcap) := by rw [v5, ← hd]; rfl
      clear v4 v5 h3
      have hGl := heap_lt h1
      obtain ⟨u0, c0⟩ := row_cell (o := i * 6) h1 (by omega)
      have z0 : wr.frozen? ⟨G, i * 6, none⟩ = false := by simp [World.frozen?, h1]
      have e1 := heap_setCell_same wr G (i * 6) _ _ (.int .i64 (K : Int)) h1
      have ho1 : Only G wr (wr.setCell ⟨G, i * 6, none⟩ (.int .i64 (K : Int))) := Only.set _ _ _
      have hG1 : G < (wr.setCell ⟨G, i * 6, none⟩ (.int .i64 (K : Int))).heap.size := heap_lt e1
      have HRC := hdN hrc
      have HRD := hdN hrd
      have HH1 := hdN h1
      clear h1 hrc hrd
      go_wp2_with fail
      refine (markText_int _ (K + 1) (by omega) (by omega) (by omega) _).mono ?_
      rintro e w1 ⟨rfl, hb1⟩
      have e2 := (hb1.block G hG1).trans e1
      have ho2 := ho1.trans (Only.of hb1)
      obtain ⟨u1, c1⟩ := row_cell (o := i * 6 + 1) e2 (by simp; omega)
      have z1 : w1.frozen? ⟨G, i * 6 + 1, none⟩ = false := by simp [World.frozen?, e2]
      have e3 := heap_setCell_same w1 G (i * 6 + 1) _ _ (.string (mt (K + 1))) e2
      have ho3 : Only G wr (w1.setCell ⟨G, i * 6 + 1, none⟩ (.string (mt (K + 1)))) := ho2.trans (Only.set _ _ _)
      have hG3 : G < (w1.setCell ⟨G, i * 6 + 1, none⟩ (.string (mt (K + 1)))).heap.size := heap_lt e3
      have hG2 := heap_lt e2
      clear c0 z0 e1 ho1 hG1 hb1 e2 ho2
      go_wp2_with fail
      refine (markText_int _ (K + 2) (by omega) (by omega) (by omega) _).mono ?_
      rintro e w2 ⟨rfl, hb2⟩
      have e4 := (hb2.block G hG3).trans e3
      have ho4 := ho3.trans (Only.of hb2)
      obtain ⟨u2, c2⟩ := row_cell (o := i * 6 + 2) e4 (by simp; omega)
      obtain ⟨u3, c3⟩ := row_cell (o := i * 6 + 3) e4 (by simp; omega)
      have z2 : w2.frozen? ⟨G, i * 6 + 2, none⟩ = false := by simp [World.frozen?, e4]
      have z3 : w2.frozen? ⟨G, i * 6 + 3, none⟩ = false := by simp [World.frozen?, e4]
      have e5 := heap_setCell_same w2 G (i * 6 + 2) _ _ (.string (mt (K + 2))) e4
      have e6 := heap_setCell_same _ G (i * 6 + 3) _ _ (.int .i64 ((K + 3 : Nat) : Int)) e5
      have hG4 := heap_lt e4
      have q3 : ((K + 3 : Nat) : Int) = (K : Int) + 1 + 1 + 1 := by omega
      obtain ⟨W6, hW6⟩ : ∃ W6, W6 = (w2.setCell ⟨G, i * 6 + 2, none⟩ (.string (mt (K + 2)))).setCell ⟨G, i * 6 + 3, none⟩ (.int .i64 ((K + 3 : Nat) : Int)) := ⟨_, rfl⟩
      rw [← hW6] at e6
      have ho6 : Only G wr W6 := by rw [hW6]; exact (ho4.trans (Only.set _ _ _)).trans (Only.set _ _ _)
      have y4 : W6.cell? ⟨G, i * 6 + 4, none⟩ = some (.slice c x.o.bt.length ccap) := by
        simp only [World.cell?, e6]
        rw [Array.getElem?_setIfInBounds_ne (by omega), Array.getElem?_setIfInBounds_ne (by omega), Array.getElem?_setIfInBounds_ne (by omega), Array.getElem?_setIfInBounds_ne (by omega)]
        exact v4'
      have hG6 := heap_lt e6
      clear c1 z1 e3 ho3 hG3 hb2 e4 ho4 e5
      go_upto_region 12 with fail
      rw [q3] at hW6
      rw [← hW6]
      have hrc6 := HRC.out.onlyT ho6 HH1.out (by decide)
      have hrd6 := HRD.out.onlyT ho6 HH1.out (by decide)
      have HE6 := hdN e6
      have HO6 := hdN ho6
      have HRC6 := hdN hrc6
      have HRD6 := hdN hrd6
      have hBG := HM.out.hB
      have hb6 : B ≤ W6.heap.size := by omega
      clear c2 c3 z2 z3 e6 ho6 hrc6 hrd6 hW6 q3
      go_wp2_with fail
      refine (markE_any c ccap x.o.bt B W6 _ (K + 4) (by omega) (by omega) (by omega) (by omega) HRC6.out).mono ?_
      rintro e w7 ⟨rfl, h7⟩
      have g7 := h7.keepG HRC6.out HE6.out (by decide)
      have hrd7 := HRD6.out.onlyE h7 HRC6.out
      have hb7 : Below B W6 w7 := h7.below (fun g hg h0 => (HRC6.out.big g hg h0).1) hb6
      have y5 : w7.cell? ⟨G, i * 6 + 5, none⟩ = some (.slice d x.o.kp.length dcap) := by
        simp only [World.cell?, g7]
        rw [Array.getElem?_setIfInBounds_ne (by omega), Array.getElem?_setIfInBounds_ne (by omega), Array.getElem?_setIfInBounds_ne (by omega), Array.getElem?_setIfInBounds_ne (by omega)]
        exact v5'
      have hG7 := heap_lt g7
      have H7 := hdN h7
      have HRD7 := hdN hrd7
      have HB7 := hdN hb7
      have hs7 := hb7.size
      clear g7 h7 hrd7 hb7 y4
      go_wp2_with fail
      refine (markI_any d dcap x.o.kp B w7 _ (K + 4 + 4 * x.o.bt.length) (by omega) (by omega) (by omega) HRD7.out).mono ?_
      rintro e w8 ⟨rfl, h8⟩
      have hb8 : Below B w7 w8 := h8.below (fun g hg h0 => (HRD7.out.big g hg h0).1) (by omega)
      have HS : Hid (MkO w8 G B (mks k0 (pre ++ [x]) ++ rest)) := by
        have hst := HM.out.step hix K (c := c) (d := d) (cap := ccap) (dap := dcap) (by rw [hgx]; exact hc) (by rw [hgx]; exact hd) HO6.out ⟨_, HE6.out, by simp only [Array.size_setIfInBounds]; exact h2, HC4.out⟩ (by rw [hgx]; exact H7.out) (by rw [hgx]; exact h8)
        rw [hgx, HIP.out, HK.out, mks_step] at hst
        exact hst
      have HB8 : Hid (Below B w w8) := ((HB.out.trans (HO6.out.below hBG (Nat.le_trans hBw HB.out.size))).trans HB7.out).trans hb8
      have HKP8 : Hid (Kp w w8) := ((HKP.out.trans (Kp.only HO6.out HH1.out)).trans (Kp.onlyE H7.out HRC6.out)).trans (Kp.onlyI h8 HRD7.out)
      clear h8 hb8 y5
      go_wp2_with fail
      refine ⟨⟨pre ++ [x], rest, i + 1, K + 4 + 4 * x.o.bt.length + x.o.kp.length, by go_num, by congr 1, ?_, ?_, ?_, HS, HB8, HKP8⟩, ?_⟩
      · show _ = _
        rw [List.length_append, HIP.out]; rfl
      · show _ = _
        rw [enK_snoc, ← HK.out]; rfl
      · show _ = _
        rw [HOS.out]; simp
      · simp only [intOf]
        have := HLEN.out
        simp only [List.length_cons] at this
        omega
end Go.Proofs.YtohpfjpgihcmiaaGreatDoor
