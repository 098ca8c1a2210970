import Derived.Test.YtgkhjjnhikbdaaaNaB
import Derived.Sort.LoopGhostIn
namespace Go.Proofs.Ytgkhjjnhikbdaaa
open Go.RowKit Go.Maps Go.Shelf
attribute [local go_sem] Oper.semAt_some
set_option linter.unusedVariables false
set_option linter.unusedSimpArgs false

/-- What a round of the loop over a merge keeps. -/
structure KM (B0 : Nat) (W W' : World) : Prop where
  size : W.heap.size ≤ W'.heap.size
  low : ∀ k, k < B0 → W'.heap[k]? = W.heap[k]?
  fr : ∀ k : Nat, FrT W.heap[k]? → W'.heap[k]? = W.heap[k]?
theorem KM.refl (B0 : Nat) (W : World) : KM B0 W W := ⟨Nat.le_refl _, fun _ _ => rfl, fun _ _ => rfl⟩
theorem KM.trans {B0 : Nat} {A B C : World} (h : KM B0 A B) (k : KM B0 B C) : KM B0 A C :=
  ⟨Nat.le_trans h.size k.size, fun i hi => (k.low i hi).trans (h.low i hi), fun i hi => (k.fr i (by rw [h.fr i hi]; exact hi)).trans (h.fr i hi)⟩
theorem frT_lt {W : World} {k : Nat} (h : FrT W.heap[k]?) : k < W.heap.size := by
  obtain ⟨arr, t, fr, h1, -⟩ := h
  exact heap_lt h1
theorem KM.of {B0 : Nat} {W W' : World} (h : Below W.heap.size W W') (hB : B0 ≤ W.heap.size) : KM B0 W W' :=
  ⟨h.size, fun k hk => h.block k (Nat.lt_of_lt_of_le hk hB), fun k hk => h.block k (frT_lt hk)⟩
theorem Mg.keep {w w' : World} {hb B0 : Nat} {cs : List SD} {rem : List (List En)} {ps : List Nat} (h : Mg w hb B0 cs rem ps) (hk : KM B0 w w') : Mg w' hb B0 cs rem ps := by
  refine ⟨h.mp, h.hp, ?_, h.src.keep h.low hk.low hk.size, h.len, h.sfx, h.dis, h.low, h.lh⟩
  obtain ⟨a, cap, h1, h2, h3⟩ := h.fr
  refine ⟨a, cap, (hk.fr hb ⟨_, _, _, h1, .inl rfl⟩).trans h1, h2, ?_⟩
  rcases h3 with h3 | ⟨g, n, rfl, h4, h5, h6⟩
  · exact .inl h3
  · exact .inr ⟨g, n, rfl, h4, h5, h6.block (hk.fr g h6.frT)⟩
/-- All the entries of the sources. -/
def allS (cs : List SD) : List En := (cs.map SD.xs).flatten
theorem Mg.open_ {w w' : World} {cs : List SD} {ps : List Nat} {B0 : Nat} (hst : ∀ p, Srtd befE (cs.getD p sd0).xs) (hf : FrO w' w.heap.size (w.heap.size + 1) cs (hdC cs) ps) (hp : ps.Perm (psK cs cs.length)) (hh : HpF (ltP (hdC cs)) ps 0) (hs : SrcAll w' cs (fun p => min 1 (cs.getD p sd0).xs.length)) (hD : PaD cs) (hl : ∀ p, p < cs.length → SrcB B0 (cs.getD p sd0)) (hB : B0 ≤ w.heap.size) : Mg w' w.heap.size B0 cs (cs.map SD.xs) ps := by
  have e : ∀ p, (cs.map SD.xs).getD p [] = (cs.getD p sd0).xs := fun p => by
    rw [List.getD_eq_getElem?_getD, List.getElem?_map, List.getD_eq_getElem?_getD]
    cases cs[p]? <;> rfl
  rw [hdC_eq] at hf hh
  refine ⟨mg_perm (psK_mg cs hst) hp, hh, hf, hs.cong (fun p hp => ?_), by rw [List.length_map], fun p hp => ⟨[], by rw [e]; rfl⟩, hD, hl, hB⟩
  unfold posR
  rw [e]
  omega
theorem Mg.items {w : World} {hb B0 : Nat} {cs : List SD} {rem : List (List En)} {ps : List Nat} (h : Mg w hb B0 cs rem ps) (hne : ps ≠ []) : ∃ g cap, w.cell? ⟨hb, 0, none⟩ = some (.slice (some ⟨g, 0, none⟩) ps.length cap) ∧ w.cell? ⟨g, 0, none⟩ = some (.string (hdR rem (ps.getD 0 0)).ky) ∧ w.cell? ⟨g, 1, none⟩ = some (.int .i64 (hdR rem (ps.getD 0 0)).sq) ∧ w.cell? ⟨g, 2, none⟩ = some (.int .i64 (hdR rem (ps.getD 0 0)).kd) ∧ w.cell? ⟨g, 3, none⟩ = some (.string (hdR rem (ps.getD 0 0)).vl) ∧ ps.length ≤ 1048576 := by
  obtain ⟨a, cap, h1, h2, h3⟩ := h.fr
  rcases h3 with h3 | ⟨g, n, rfl, h4, h5, h6⟩
  · exact absurd h3 hne
  · obtain ⟨x0, x1, x2, x3, -, -⟩ := h6.cells (List.length_pos_iff.2 hne)
    simp only [Nat.zero_mul, Nat.zero_add] at x0 x1 x2 x3
    obtain ⟨arr, -, -, h7, -⟩ := h6
    exact ⟨g, cap, (twoN h1).1, x0, x1, x2, x3, by omega⟩
theorem Mg.none_ {w : World} {hb B0 : Nat} {cs : List SD} {rem : List (List En)} (h : Mg w hb B0 cs rem []) : ∃ a cap, w.cell? ⟨hb, 0, none⟩ = some (.slice a 0 cap) := by
  obtain ⟨a, cap, h1, h2, h3⟩ := h.fr
  exact ⟨a, cap, (twoN h1).1⟩
theorem set_len {rem : List (List En)} {p : Nat} (hp : p < rem.length) (hn : rem.getD p [] ≠ []) : (rem.set p (rem.getD p []).tail).flatten.length < rem.flatten.length := by
  have e0 : rem.set p (rem.getD p []) = rem := by
    have : rem.getD p [] = rem[p] := by simp [List.getD, hp]
    rw [this]; exact List.set_getElem_self hp
  have e1 := flat_at rem p hp (rem.getD p [])
  rw [e0] at e1
  rw [e1, flat_at rem p hp]
  cases hx : rem.getD p [] with
  | nil => exact absurd hx hn
  | cons x t => simp
set_option maxRecDepth 100000 in
set_option maxHeartbeats 4000000 in
theorem merge1_in (n : Nat) (hn : 1 ≤ n) (l bo bs B0 : Nat) (a : Option Addr) (cap : Nat) (cs : List SD) (J : List En → World → Prop) (W0 : World) (hJ : ∀ pre W W', J pre W → ItW B0 cs W W' → J pre W') (Kp : World → World → Prop) (hKp : ∀ A B, Kp A B → KM B0 A B)
    (hY : ∀ pre (x : En) W, J pre W → pre.length < (allS cs).length → YieldAt Fence.wide (n - 1) Try.prog l #[x.agg] W fun e W' => e = .returned (.bool true) ∧ J (pre ++ [x]) W' ∧ Kp W W')
    (hbo : W0.cell? ⟨bo, 0, none⟩ = some (.func (.func 23) #[] #[])) (hbs : W0.cell? ⟨bs, 0, none⟩ = some (.slice a cs.length cap)) (hS : LieS W0 a cs) (hA : SrcAll W0 cs (fun _ => 0)) (hD : PaD cs) (hlen : cs.length ≤ 1048576) (hst : ∀ p, Srtd befE (cs.getD p sd0).xs) (hlow : ∀ p, p < cs.length → SrcB B0 (cs.getD p sd0)) (hB0 : B0 ≤ W0.heap.size) (h0 : J [] W0) :
    CallsIn Fence.wide n Try.prog 35 #[.func (.yield l) #[] #[], .pointer (some ⟨bo, 0, none⟩), .pointer (some ⟨bs, 0, none⟩)] W0 fun e W' => (∃ v, e = .returned v) ∧ ∃ xs, xs = srt befE (allS cs) ∧ J xs W' := by
  have HOp := hdN (openFronts_any a cap cs W0 hS hA hD hlen)
  have HMg := hdN (fun (w' : World) (ps : List Nat) hf hp hh hs => Mg.open_ (w := W0) (w' := w') (ps := ps) hst hf hp hh hs hD hlow hB0)
  obtain ⟨A, hAe⟩ : ∃ A, A = srt befE (allS cs) := ⟨_, rfl⟩
  rw [← hAe]
  have HA0 : Hid (A = [] ++ srt befE (cs.map SD.xs).flatten) := hAe
  have HAl : Hid (A.length = (allS cs).length) := by show _ = _; rw [hAe, srt_length]
  replace hY := hdN hY
  replace hJ := hdN hJ
  have hbol : bo < W0.heap.size := by
    rcases Nat.lt_or_ge bo W0.heap.size with h | h
    · exact h
    · have h1 : W0.heap[bo]? = none := Array.getElem?_eq_none h
      simp [World.cell?, h1] at hbo
  have HJ0 := hdN h0
  clear hAe h0 hS hA
  refine callsIn_of_wp Try.func35 rfl trivial ?_ rfl
  simp only [Try.ntmps35, List.size_toArray, List.length_cons, List.length_nil, Nat.reduceAdd, Nat.reduceSub, Array.replicate_succ, Array.replicate_zero, List.push_toArray, List.append_toArray, List.nil_append, List.cons_append]
  gi_wp2_with (refine ⟨trivial, ?_⟩; gi_at_call 36; refine (callsIn_wide.2 HOp.out).mono ?_; rintro e w1 ⟨ps1, rfl, hf1, hp1, hh1, hs1, hk1⟩; have HM1 := hdN (HMg.out w1 ps1 hf1 hp1 hh1 hs1); have HJ1 := hdN (hJ.out _ _ _ HJ0.out (ItW.of hk1)); clear hf1 hp1 hh1 hs1 hk1)
  gi_loopg [8] (cs.map SD.xs).flatten.length (fun k v8 wr => ∃ (pre : List En) (rem : List (List En)) (ps : List Nat), Hid (rem.flatten.length = k) ∧ Hid (A = pre ++ srt befE rem.flatten) ∧ Hid (Mg wr W0.heap.size B0 cs rem ps) ∧ Hid (J pre wr))
  case atStart => exact ⟨[], cs.map SD.xs, ps1, rfl, HA0, HM1, HJ1⟩
  case round =>
    clear HM1 HJ1 HA0
    obtain ⟨pre, rem, ps, hk, HA, HM, HJ⟩ := hrel
    by_cases hps : ps = []
    · subst hps
      obtain ⟨a', cap', y0⟩ := HM.out.none_
      have hAe : A = pre := by rw [HA.out, mg_nil HM.out.mp]; simp [srt]
      clear HA
      subst hAe
      gi_wp2
      go_end0
      first | exact ⟨⟨_, rfl⟩, _, rfl, HJ.out⟩ | exact ⟨⟨_, rfl⟩, HJ.out⟩
    · obtain ⟨g, cap', y0, x0, x1, x2, x3, hpl⟩ := HM.out.items hps
      have hlt : (0 : Int) < (ps.length : Int) := by have := List.length_pos_iff.2 hps; omega
      have hlt0 : 0 < ps.length := List.length_pos_iff.2 hps
      obtain ⟨hp, hpn⟩ := (HM.out.mp.mem _).1 (get0_mem hps)
      have HT := hdN (mg_take HM.out.mp HM.out.hp hps)
      have HSL := hdN (set_len hp hpn)
      have HAd := hdN (fun (w' : World) (h : Mg w' W0.heap.size B0 cs rem ps) => advance_any w' W0.heap.size B0 cs rem ps h hps)
      generalize rem.set (ps.getD 0 0) (rem.getD (ps.getD 0 0) []).tail = rem' at *
      generalize hdR rem (ps.getD 0 0) = x at *
      have HA2 : Hid (A = (pre ++ [x]) ++ srt befE rem'.flatten) := by show _ = _; rw [HA.out, HT.out]; simp
      have HLn : Hid (pre.length < (allS cs).length) := by show _ < _; rw [← HAl.out, HA2.out]; simp
      obtain ⟨fn, tmps, assign, body, hy, hR⟩ := hY.out pre x wr HJ.out HLn.out
      generalize hm : ps.length = m at *
      clear hm hp hpn HT HA HJ
      gi_wp2
      refine hR.mono ?_
      rintro e W3 ⟨rfl, hJ3, hk3⟩
      have HM3 := hdN (HM.out.keep (hKp _ _ hk3))
      have HJ3 := hdN hJ3
      clear hJ3 hk3 hR hy y0 x0 x1 x2 x3 HM
      gi_wp2_with (refine ⟨trivial, ?_⟩; gi_at_call 37; refine (callsIn_wide.2 (HAd.out W3 HM3.out)).mono ?_; rintro e w4 ⟨⟨v4, rfl⟩, ⟨qs, hm4⟩, hi4⟩; have HM4 := hdN hm4; have HJ4 := hdN (hJ.out _ _ _ HJ3.out hi4); clear hm4 hi4)
      gi_roundg rem'.flatten.length
      case measure => rw [← hk.out]; exact HSL.out
      case rel => exact ⟨pre ++ [x], rem', qs, rfl, HA2, HM4, HJ4⟩
theorem merge_in (F : Fence) (n : Nat) (h5 : F.fn 22) (hro : F.round = none) (a : Option Addr) (m cap : Nat) (w : World) :
    CallsIn F n Try.prog 22 #[.func (.func 23) #[] #[], .slice a m cap] w fun e w' => e = .returned (.func (.func 35) #[] #[.pointer (some ⟨w.heap.size, 0, none⟩), .pointer (some ⟨w.heap.size + 1, 0, none⟩)]) ∧ w' = (w.alloc (.cells #[.func (.func 23) #[] #[]] 50)).alloc (.cells #[.slice a m cap] 43) := by
  refine callsIn_of_wp Try.func22 rfl h5 ?_ hro
  simp only [Try.ntmps22, List.size_toArray, List.length_cons, List.length_nil, Nat.reduceAdd, Nat.reduceSub, Array.replicate_succ, Array.replicate_zero, List.push_toArray, List.append_toArray, List.nil_append, List.cons_append]
  gi_wp2
  go_ret
  exact ⟨rfl, rfl⟩
end Go.Proofs.Ytgkhjjnhikbdaaa
