import Derived.Test.YtgmfjninimebmaaGreatDoorNaB
import Derived.Sort.LoopGhostIn
namespace Go.Proofs.YtgmfjninimebmaaGreatDoor
open Go.RowKit Go.Maps Go.Shelf
attribute [local go_sem] Oper.semAt_some
set_option linter.unusedVariables false
set_option linter.unusedSimpArgs false

/-- What a round of the loop over a merge keeps. -/
structure KM (B0 : Nat) (W W' : World) : Prop where
  size : W.heap.size ≤ W'.heap.size
  low : ∀ k, k < B0 → W'.heap[k]? = W.heap[k]?
  fr : ∀ k : Nat, FrT W.heap[k]? → W'.heap[k]? = W.heap[k]?
theorem KM.refl (B0 : Nat) (W : World) : KM B0 W W := ⟨Nat.le_refl _, fun _ _ => rfl, fun _ _ => rfl⟩
theorem KM.trans {B0 : Nat} {A B C : World} (h : KM B0 A B) (k : KM B0 B C) : KM B0 A C :=
  ⟨Nat.le_trans h.size k.size, fun i hi => (k.low i hi).trans (h.low i hi), fun i hi => (k.fr i (by rw [h.fr i hi]; exact hi)).trans (h.fr i hi)⟩
theorem frT_lt {W : World} {k : Nat} (h : FrT W.heap[k]?) : k < W.heap.size := by
  obtain ⟨arr, t, fr, h1, -⟩ := h
  exact heap_lt h1
theorem KM.of {B0 : Nat} {W W' : World} (h : Below W.heap.size W W') (hB : B0 ≤ W.heap.size) : KM B0 W W' :=
  ⟨h.size, fun k hk => h.block k (Nat.lt_of_lt_of_le hk hB), fun k hk => h.block k (frT_lt hk)⟩
theorem Mg.keep {w w' : World} {hb B0 : Nat} {cs : List SD} {rem : List (List En)} {ps : List Nat} (h : Mg w hb B0 cs rem ps) (hk : KM B0 w w') : Mg w' hb B0 cs rem ps := by
  refine ⟨h.mp, h.hp, ?_, h.src.keep h.low hk.low hk.size, h.len, h.sfx, h.dis, h.low, h.lh⟩
  obtain ⟨a, cap, h1, h2, h3⟩ := h.fr
  refine ⟨a, cap, (hk.fr hb ⟨_, _, _, h1, .inl rfl⟩).trans h1, h2, ?_⟩
  rcases h3 with h3 | ⟨g, n, rfl, h4, h5, h6⟩
  · exact .inl h3
  · exact .inr ⟨g, n, rfl, h4, h5, h6.block (hk.fr g h6.frT)⟩
/-- All the entries of the sources. -/
def allS (cs : List SD) : List En := (cs.map SD.xs).flatten
theorem Mg.open_ {w w' : World} {cs : List SD} {ps : List Nat} {B0 : Nat} (hst : ∀ p, Srtd befE (cs.getD p sd0).xs) (hf : FrO w' w.heap.size (w.heap.size + 1) cs (hdC cs) ps) (hp : ps.Perm (psK cs cs.length)) (hh : HpF (ltP (hdC cs)) ps 0) (hs : SrcAll w' cs (fun p => min 1 (cs.getD p sd0).xs.length)) (hD : PaD cs) (hl : ∀ p, p < cs.length → SrcB B0 (cs.getD p sd0)) (hB : B0 ≤ w.heap.size) : Mg w' w.heap.size B0 cs (cs.map SD.xs) ps := by
  have e : ∀ p, (cs.map SD.xs).getD p [] = (cs.getD p sd0).xs := fun p => by
    rw [List.getD_eq_getElem?_getD, List.getElem?_map, List.getD_eq_getElem?_getD]
    cases cs[p]? <;> rfl
  rw [hdC_eq] at hf hh
  refine ⟨mg_perm (psK_mg cs hst) hp, hh, hf, hs.cong (fun p hp => ?_), by rw [List.length_map], fun p hp => ⟨[], by rw [e]; rfl⟩, hD, hl, hB⟩
  unfold posR
  rw [e]
  omega
theorem Mg.items {w : World} {hb B0 : Nat} {cs : List SD} {rem : List (List En)} {ps : List Nat} (h : Mg w hb B0 cs rem ps) (hne : ps ≠ []) : ∃ g cap, w.cell? ⟨hb, 0, none⟩ = some (.slice (some ⟨g, 0, none⟩) ps.length cap) ∧ w.cell? ⟨g, 0, none⟩ = some (.string (hdRE rem (ps.getD 0 0)).ky) ∧ w.cell? ⟨g, 1, none⟩ = some (.int .i64 (hdRE rem (ps.getD 0 0)).sq) ∧ w.cell? ⟨g, 2, none⟩ = some (.int .i64 (hdRE rem (ps.getD 0 0)).kd) ∧ w.cell? ⟨g, 3, none⟩ = some (.string (hdRE rem (ps.getD 0 0)).vl) ∧ ps.length ≤ 1048576 := by
  obtain ⟨a, cap, h1, h2, h3⟩ := h.fr
  rcases h3 with h3 | ⟨g, n, rfl, h4, h5, h6⟩
  · exact absurd h3 hne
  · obtain ⟨x0, x1, x2, x3, -, -⟩ := h6.cells (List.length_pos_iff.2 hne)
    simp only [Nat.zero_mul, Nat.zero_add] at x0 x1 x2 x3
    obtain ⟨arr, -, -, h7, -⟩ := h6
    exact ⟨g, cap, (twoN h1).1, x0, x1, x2, x3, by omega⟩
theorem Mg.none_ {w : World} {hb B0 : Nat} {cs : List SD} {rem : List (List En)} (h : Mg w hb B0 cs rem []) : ∃ a cap, w.cell? ⟨hb, 0, none⟩ = some (.slice a 0 cap) := by
  obtain ⟨a, cap, h1, h2, h3⟩ := h.fr
  exact ⟨a, cap, (twoN h1).1⟩
theorem set_len {rem : List (List En)} {p : Nat} (hp : p < rem.length) (hn : rem.getD p [] ≠ []) : (rem.set p (rem.getD p []).tail).flatten.length < rem.flatten.length := by
  have e0 : rem.set p (rem.getD p []) = rem := by
    have : rem.getD p [] = rem[p] := by simp [List.getD, hp]
    rw [this]; exact List.set_getElem_self hp
  have e1 := flat_at rem p hp (rem.getD p [])
  rw [e0] at e1
  rw [e1, flat_at rem p hp]
  cases hx : rem.getD p [] with
  | nil => exact absurd hx hn
  | cons x t => simp
set_option maxRecDepth 100000 in
set_option maxHeartbeats 4000000 in
theorem merge1_in (n : Nat) (hn : 1 ≤ n) (l bo bs B0 : Nat) (a : Option Addr) (cap : Nat) (cs : List SD) (J : List En → World → Prop) (W0 : World) (hJ : ∀ pre W W', J pre W → ItW B0 cs W W' → J pre W') (Kp : World → World → Prop) (hKp : ∀ A B, Kp A B → KM B0 A B)
    (hY : ∀ pre (x : En) W, J pre W → pre.length < (allS cs).length → YieldAt Fence.wide (n - 1) Tryz.prog l #[x.agg] W fun e W' => e = .returned (.bool true) ∧ J (pre ++ [x]) W' ∧ Kp W W')
    (hbo : W0.cell? ⟨bo, 0, none⟩ = some (.func (.func 86) #[] #[])) (hbs : W0.cell? ⟨bs, 0, none⟩ = some (.slice a cs.length cap)) (hS : LieSE W0 a cs) (hA : SrcAll W0 cs (fun _ => 0)) (hD : PaD cs) (hlen : cs.length ≤ 1048576) (hst : ∀ p, Srtd befE (cs.getD p sd0).xs) (hlow : ∀ p, p < cs.length → SrcB B0 (cs.getD p sd0)) (hB0 : B0 ≤ W0.heap.size) (h0 : J [] W0) :
    CallsIn Fence.wide n Tryz.prog 131 #[.func (.yield l) #[] #[], .pointer (some ⟨bo, 0, none⟩), .pointer (some ⟨bs, 0, none⟩)] W0 fun e W' => (∃ v, e = .returned v) ∧ ∃ xs, xs = srt befE (allS cs) ∧ J xs W' := by
  have HOp := hdN (openFronts_any a cap cs W0 hS hA hD hlen)
  have HMg := hdN (fun (w' : World) (ps : List Nat) hf hp hh hs => Mg.open_ (w := W0) (w' := w') (ps := ps) hst hf hp hh hs hD hlow hB0)
  obtain ⟨A, hAe⟩ : ∃ A, A = srt befE (allS cs) := ⟨_, rfl⟩
  rw [← hAe]
  have HA0 : Hid (A = [] ++ srt befE (cs.map SD.xs).flatten) := hAe
  have HAl : Hid (A.length = (allS cs).length) := by show _ = _; rw [hAe, srt_length]
  replace hY := hdN hY
  replace hJ := hdN hJ
  have hbol : bo < W0.heap.size := by
    rcases Nat.lt_or_ge bo W0.heap.size with h | h
    · exact h
    · have h1 : W0.heap[bo]? = none := Array.getElem?_eq_none h
      simp [World.cell?, h1] at hbo
  have HJ0 := hdN h0
  clear hAe h0 hS hA
  refine callsIn_of_wp Tryz.func131 rfl trivial ?_ rfl
  simp only [Tryz.ntmps131, List.size_toArray, List.length_cons, List.length_nil, Nat.reduceAdd, Nat.reduceSub, Array.replicate_succ, Array.replicate_zero, List.push_toArray, List.append_toArray, List.nil_append, List.cons_append]
  gi_wp2_with (refine ⟨trivial, ?_⟩; gi_at_call 132; refine (callsIn_wide.2 HOp.out).mono ?_; rintro e w1 ⟨ps1, rfl, hf1, hp1, hh1, hs1, hk1⟩; have HM1 := hdN (HMg.out w1 ps1 hf1 hp1 hh1 hs1); have HJ1 := hdN (hJ.out _ _ _ HJ0.out (ItW.of hk1)); clear hf1 hp1 hh1 hs1 hk1)
  gi_loopg [8] (cs.map SD.xs).flatten.length (fun k v8 wr => ∃ (pre : List En) (rem : List (List En)) (ps : List Nat), Hid (rem.flatten.length = k) ∧ Hid (A = pre ++ srt befE rem.flatten) ∧ Hid (Mg wr W0.heap.size B0 cs rem ps) ∧ Hid (J pre wr))
  case atStart => exact ⟨[], cs.map SD.xs, ps1, rfl, HA0, HM1, HJ1⟩
  case round =>
    clear HM1 HJ1 HA0
    obtain ⟨pre, rem, ps, hk, HA, HM, HJ⟩ := hrel
    by_cases hps : ps = []
    · subst hps
      obtain ⟨a', cap', y0⟩ := HM.out.none_
      have hAe : A = pre := by rw [HA.out, mg_nil HM.out.mp]; simp [srt]
      clear HA
      subst hAe
      gi_wp2
      go_end0
      first | exact ⟨⟨_, rfl⟩, _, rfl, HJ.out⟩ | exact ⟨⟨_, rfl⟩, HJ.out⟩
    · obtain ⟨g, cap', y0, x0, x1, x2, x3, hpl⟩ := HM.out.items hps
      have hlt : (0 : Int) < (ps.length : Int) := by have := List.length_pos_iff.2 hps; omega
      have hlt0 : 0 < ps.length := List.length_pos_iff.2 hps
      obtain ⟨hp, hpn⟩ := (HM.out.mp.mem _).1 (get0_mem hps)
      have HT := hdN (mg_take HM.out.mp HM.out.hp hps)
      have HSL := hdN (set_len hp hpn)
      have HAd := hdN (fun (w' : World) (h : Mg w' W0.heap.size B0 cs rem ps) => advance_any w' W0.heap.size B0 cs rem ps h hps)
      generalize rem.set (ps.getD 0 0) (rem.getD (ps.getD 0 0) []).tail = rem' at *
      generalize hdRE rem (ps.getD 0 0) = x at *
      have HA2 : Hid (A = (pre ++ [x]) ++ srt befE rem'.flatten) := by show _ = _; rw [HA.out, HT.out]; simp
      have HLn : Hid (pre.length < (allS cs).length) := by show _ < _; rw [← HAl.out, HA2.out]; simp
      obtain ⟨fn, tmps, assign, body, hy, hR⟩ := hY.out pre x wr HJ.out HLn.out
      generalize hm : ps.length = m at *
      clear hm hp hpn HT HA HJ
      gi_wp2
      refine hR.mono ?_
      rintro e W3 ⟨rfl, hJ3, hk3⟩
      have HM3 := hdN (HM.out.keep (hKp _ _ hk3))
      have HJ3 := hdN hJ3
      clear hJ3 hk3 hR hy y0 x0 x1 x2 x3 HM
      gi_wp2_with (refine ⟨trivial, ?_⟩; gi_at_call 133; refine (callsIn_wide.2 (HAd.out W3 HM3.out)).mono ?_; rintro e w4 ⟨⟨v4, rfl⟩, ⟨qs, hm4⟩, hi4⟩; have HM4 := hdN hm4; have HJ4 := hdN (hJ.out _ _ _ HJ3.out hi4); clear hm4 hi4)
      gi_roundg rem'.flatten.length
      case measure => rw [← hk.out]; exact HSL.out
      case rel => exact ⟨pre ++ [x], rem', qs, rfl, HA2, HM4, HJ4⟩
theorem merge_in (F : Fence) (n : Nat) (h5 : F.fn 85) (hro : F.round = none) (a : Option Addr) (m cap : Nat) (w : World) :
    CallsIn F n Tryz.prog 85 #[.func (.func 86) #[] #[], .slice a m cap] w fun e w' => e = .returned (.func (.func 131) #[] #[.pointer (some ⟨w.heap.size, 0, none⟩), .pointer (some ⟨w.heap.size + 1, 0, none⟩)]) ∧ w' = (w.alloc (.cells #[.func (.func 86) #[] #[]] 137)).alloc (.cells #[.slice a m cap] 130) := by
  refine callsIn_of_wp Tryz.func85 rfl h5 ?_ hro
  simp only [Tryz.ntmps85, List.size_toArray, List.length_cons, List.length_nil, Nat.reduceAdd, Nat.reduceSub, Array.replicate_succ, Array.replicate_zero, List.push_toArray, List.append_toArray, List.nil_append, List.cons_append]
  gi_wp2
  go_ret
  exact ⟨rfl, rfl⟩
end Go.Proofs.YtgmfjninimebmaaGreatDoor
namespace Go.Proofs.YtgmfjninimebmaaGreatDoor
open Go.RowKit Go.Maps Go.Shelf
set_option linter.unusedVariables false
set_option linter.unusedSimpArgs false

/-- Of each key the first, taken one entry behind the other. -/
def nwA (acc : List En) (x : En) : List En := if acc.getLast?.map En.ky = some x.ky then acc else acc ++ [x]
def nwF (xs : List En) : List En := xs.foldl nwA []
theorem nwF_snoc (xs : List En) (x : En) : nwF (xs ++ [x]) = nwA (nwF xs) x := by simp [nwF]
theorem nwF_ne (xs : List En) (h : xs ≠ []) : ∃ y, (nwF xs).getLast? = some y ∧ xs.getLast?.map En.ky = some y.ky := by
  rcases List.eq_nil_or_concat xs with h0 | ⟨ys, x, rfl⟩
  · exact absurd h0 h
  · have e : ys.concat x = ys ++ [x] := by simp
    rw [e, nwF_snoc]
    unfold nwA
    by_cases hk : (nwF ys).getLast?.map En.ky = some x.ky
    · rw [if_pos hk]
      cases hl : (nwF ys).getLast? with
      | none => rw [hl] at hk; simp at hk
      | some y => rw [hl] at hk; exact ⟨y, rfl, by simp at hk ⊢; exact hk.symm⟩
    · rw [if_neg hk]; exact ⟨x, by simp, by simp⟩
theorem nwF_ddT (S : List En) : ∀ k, k ≤ S.length → nwF (S.take k) = ddT S k := by
  intro k
  induction k with
  | zero => intro _; rfl
  | succ k ih =>
    intro hk
    have e : S.take (k + 1) = S.take k ++ [S.getD k en0] := takeE_snoc S k (by omega)
    rw [e, nwF_snoc, ih (by omega), ddT_succ]
    unfold nwA
    by_cases h0 : k = 0
    · subst h0
      have e0 : ddT S 0 = [] := rfl
      rw [e0]
      simp [fst1]
    · have hne0 : S.take k ≠ [] := fun h => by
        have h9 : (S.take k).length = 0 := by rw [h]; rfl
        rw [List.length_take] at h9
        omega
      obtain ⟨y, hy1, hy2⟩ := nwF_ne (S.take k) hne0
      rw [ih (by omega)] at hy1
      have hl : (S.take k).getLast? = some (S.getD (k - 1) en0) := by
        have : S.take k = S.take (k - 1) ++ [S.getD (k - 1) en0] := by
          have := takeE_snoc S (k - 1) (by omega)
          rwa [show k - 1 + 1 = k by omega] at this
        rw [this]; simp
      rw [hl] at hy2
      simp at hy2
      rw [hy1]
      unfold fst1
      simp [h0]
      by_cases hky : (S.getD k en0).ky = (S.getD (k - 1) en0).ky
      · have hky' : (S[k]?.getD en0).ky = (S[k - 1]?.getD en0).ky := by simpa using hky
        rw [if_pos (by rw [← hy2]; exact hky'.symm)]
        simp [hky']
      · have hky' : ¬ (S[k]?.getD en0).ky = (S[k - 1]?.getD en0).ky := by simpa using hky
        rw [if_neg (by rw [← hy2]; exact fun e => hky' e.symm)]
        simp [hky']
theorem nwF_new (xs : List En) : nwF (srt befE xs) = newE xs := by
  have h := nwF_ddT (srt befE xs) (srt befE xs).length (Nat.le_refl _)
  rw [List.take_length, srt_length] at h
  exact h
theorem nwF_len (xs : List En) : (nwF xs).length ≤ xs.length := by
  have h := nwF_ddT xs xs.length (Nat.le_refl _)
  rw [List.take_length] at h
  rw [h]
  exact ddT_len _ _
theorem srt_congr {xs ys : List En} (h : Sm befE xs ys) : srt befE xs = srt befE ys := srt_of befE_swo (srt_ok befE_swo xs).1 (h.symm.trans (srt_ok befE_swo xs).2)
theorem allS_sm : ∀ (L : List LV) (cs : List SD), cs.length = L.length → (∀ p, p < cs.length → (cs.getD p sd0).xs = srt befE (L.getD p lv0).xs) → Sm befE (allE L) (allS cs) ∧ (allE L).length = (allS cs).length
  | [], [], _, _ => ⟨Sm.refl _, rfl⟩
  | [], _ :: _, h, _ => by simp at h
  | _ :: _, [], h, _ => by simp at h
  | l :: L, c :: cs, h, hx => by
    obtain ⟨h1, h2⟩ := allS_sm L cs (by simpa using h) (fun p hp => hx (p + 1) (by simpa using hp))
    have h0 : c.xs = srt befE l.xs := hx 0 (by simp)
    have e1 : allE (l :: L) = l.xs ++ allE L := rfl
    have e2 : allS (c :: cs) = srt befE l.xs ++ allS cs := by rw [← h0]; rfl
    rw [e1, e2]
    exact ⟨Sm.app (srt_ok befE_swo _).2 h1, by rw [List.length_append, List.length_append, srt_length, h2]⟩
/-- The sources of the first k lists. -/
structure SrcI (w : World) (L : List LV) (k : Nat) (v : Value) (cs : List SD) (W : World) : Prop where
  len : cs.length = k
  row : W.ownsRow w.heap.size 132 1 v k (cs.map SD.fn)
  src : SrcAll W cs (fun _ => 0)
  xs : ∀ p, p < cs.length → (cs.getD p sd0).xs = srt befE (L.getD p lv0).xs
  dis : PaD cs
  lo : ∀ p, p < cs.length → w.heap.size ≤ (cs.getD p sd0).pa
  bel : Below w.heap.size w W
  sep : ∀ p, p < cs.length → ∀ b off, (cs.getD p sd0).a = some ⟨b, off, none⟩ → (cs.getD p sd0).xs ≠ [] → v.ownBlock ≠ some b
theorem getD_snocS (cs : List SD) (c : SD) (p : Nat) : (cs ++ [c]).getD p sd0 = if p < cs.length then cs.getD p sd0 else if p = cs.length then c else sd0 := by
  rw [List.getD_eq_getElem?_getD, List.getElem?_append]
  by_cases h : p < cs.length
  · rw [if_pos h, if_pos h, List.getD_eq_getElem?_getD]
  · rw [if_neg h, if_neg h]
    by_cases e : p = cs.length
    · rw [if_pos e, e]; simp
    · rw [if_neg e]
      have : 1 ≤ p - cs.length := by omega
      rw [List.getElem?_eq_none (by simp; omega)]; rfl
theorem SrcI.start {w : World} {L : List LV} : SrcI w L 0 (.slice none 0 0) [] w :=
  ⟨rfl, ⟨rfl, .inl ⟨rfl, rfl⟩⟩, fun p hp => by simp at hp, fun p hp => by simp at hp, fun p q hp => by simp at hp, fun p hp => by simp at hp, Below.refl _ _, fun p hp => by simp at hp⟩
theorem SrcAt.grown {w w' : World} {d : SD} {i : Nat} {row : Option Nat} (h : SrcAt w d i) (hg : w.grownBy w' row) (h1 : row ≠ some d.pa) (h2 : row ≠ some d.pl) (h3 : d.xs ≠ [] → ∀ b off, d.a = some ⟨b, off, none⟩ → row ≠ some b) : SrcAt w' d i := by
  refine ⟨(hg.block _ (heap_lt h.at_) (fun e => h1 e.symm)).trans h.at_, (hg.block _ (heap_lt h.li) (fun e => h2 e.symm)).trans h.li, ?_, h.le, h.ln⟩
  rcases h.ls with e1 | ⟨b, off, e1, hlt, hcs⟩
  · exact .inl e1
  · by_cases hn : d.xs = []
    · exact .inl hn
    · have hb : w'.heap[b]? = w.heap[b]? := hg.block b hlt (fun e => h3 hn b off e1 e.symm)
      have ke : ∀ o, w'.cell? ⟨b, o, none⟩ = w.cell? ⟨b, o, none⟩ := fun o => by simp only [World.cell?, hb]
      refine .inr ⟨b, off, e1, Nat.lt_of_lt_of_le hlt hg.size, fun j hj => ?_⟩
      obtain ⟨a0, a1, a2, a3⟩ := hcs j hj
      exact ⟨(ke _).trans a0, (ke _).trans a1, (ke _).trans a2, (ke _).trans a3⟩
theorem SrcI.snoc {w : World} {L : List LV} {k : Nat} {v v' : Value} {cs : List SD} {W w2 w3 : World} {c : SD} (h : SrcI w L k v cs W) (h2 : Below W.heap.size W w2) (hc : SrcAt w2 c 0) (hx : c.xs = srt befE (L.getD k lv0).xs) (hpa : W.heap.size ≤ c.pa) (hsep : c.xs ≠ [] → ∀ b off, c.a = some ⟨b, off, none⟩ → v.ownBlock ≠ some b)
    (hg : w2.grownBy w3 v.ownBlock) (hat : v'.ownBlock = v.ownBlock ∨ v'.ownBlock = some w2.heap.size) (hown : w3.ownsRow w.heap.size 132 1 v' (k + 1) (cs.map SD.fn ++ [c.fn])) : SrcI w L (k + 1) v' (cs ++ [c]) w3 := by
  have hW := h.bel.size
  have hty : ∀ g, v.ownBlock = some g → w.heap.size ≤ g ∧ ∃ cur, w2.heap[g]? = some (.cells cur 132 (0, 0)) := fun g e => by
    rcases h.row.2 with ⟨rfl, h0⟩ | ⟨g', cap, cur, rfl, hgB, hgb, _⟩
    · cases e
    · cases e
      exact ⟨hgB, cur, (h2.block _ (heap_lt hgb)).trans hgb⟩
  have keep : ∀ (d : SD) (i : Nat), SrcAt w2 d i → (d.xs ≠ [] → ∀ b off, d.a = some ⟨b, off, none⟩ → v.ownBlock ≠ some b) → SrcAt w3 d i := fun d i hd hs => by
    refine hd.grown hg (fun e => ?_) (fun e => ?_) hs
    · obtain ⟨-, cur, h3⟩ := hty _ e
      rw [hd.at_] at h3
      injection h3 with h3
      injection h3 with e1 e2
      exact absurd e2 (by decide)
    · obtain ⟨-, cur, h3⟩ := hty _ e
      rw [hd.li] at h3
      injection h3 with h3
      injection h3 with e1 e2
      exact absurd e2 (by decide)
  have hold : ∀ p, p < cs.length → SrcAt w3 (cs.getD p sd0) 0 := fun p hp => keep _ _ ((h.src p hp).below h2) (fun hn b off e => h.sep p hp b off e hn)
  have hnew : SrcAt w3 c 0 := keep c 0 hc hsep
  have gl : ∀ p, p < cs.length → (cs ++ [c]).getD p sd0 = cs.getD p sd0 := fun p hp => by rw [getD_snocS, if_pos hp]
  have gr : (cs ++ [c]).getD cs.length sd0 = c := by rw [getD_snocS, if_neg (by omega), if_pos rfl]
  have hlen : (cs ++ [c]).length = cs.length + 1 := by simp
  refine ⟨by rw [hlen, h.len], by rw [List.map_append]; exact hown, fun p hp => ?_, fun p hp => ?_, fun p q hp hq hpq => ?_, fun p hp => ?_, ?_, fun p hp b off e hn => ?_⟩
  · rw [hlen] at hp
    by_cases hpl : p < cs.length
    · rw [gl p hpl]; exact hold p hpl
    · rw [show p = cs.length by omega, gr]; exact hnew
  · rw [hlen] at hp
    by_cases hpl : p < cs.length
    · rw [gl p hpl]; exact h.xs p hpl
    · rw [show p = cs.length by omega, gr, hx, h.len]
  · rw [hlen] at hp hq
    have hlow : ∀ p, p < cs.length → (cs.getD p sd0).pa < W.heap.size := fun p hp => heap_lt (h.src p hp).at_
    by_cases hpl : p < cs.length
    · by_cases hql : q < cs.length
      · rw [gl p hpl, gl q hql]; exact h.dis p q hpl hql hpq
      · rw [gl p hpl, show q = cs.length by omega, gr]; have := hlow p hpl; omega
    · by_cases hql : q < cs.length
      · rw [show p = cs.length by omega, gr, gl q hql]; have := hlow q hql; omega
      · omega
  · rw [hlen] at hp
    by_cases hpl : p < cs.length
    · rw [gl p hpl]; exact h.lo p hpl
    · rw [show p = cs.length by omega, gr]; omega
  · refine h.bel.trans ⟨hg.os.trans h2.os, hg.tape.trans h2.tape, hg.output.trans h2.output, Nat.le_trans h2.size hg.size, fun j hj => ?_⟩
    have hj2 : j < w2.heap.size := by have := h2.size; omega
    exact (hg.block j hj2 (fun e => by have := (hty j e.symm).1; omega)).trans (h2.block j (by omega))
  · have hb : b < w2.heap.size ∧ v.ownBlock ≠ some b := by
      rw [hlen] at hp
      by_cases hpl : p < cs.length
      · rw [gl p hpl] at e hn
        refine ⟨?_, h.sep p hpl b off e hn⟩
        rcases (h.src p hpl).low.2.2 with e1 | ⟨b', off', e1, h4⟩
        · exact absurd e1 hn
        · rw [e] at e1; cases e1; have := h2.size; omega
      · rw [show p = cs.length by omega, gr] at e hn
        refine ⟨?_, hsep hn b off e⟩
        rcases hc.low.2.2 with e1 | ⟨b', off', e1, h4⟩
        · exact absurd e1 hn
        · rw [e] at e1; cases e1; exact h4
    rcases hat with h1 | h1
    · rw [h1]; exact hb.2
    · rw [h1]; intro e2; injection e2 with e2; omega
end Go.Proofs.YtgmfjninimebmaaGreatDoor
