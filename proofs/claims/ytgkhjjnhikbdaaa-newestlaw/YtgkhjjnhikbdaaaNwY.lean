import Derived.Test.YtgkhjjnhikbdaaaNwX
import Derived.Laws.EntriesVeiled
import Derived.Deep.RegionLaw
namespace Go.Proofs.Ytgkhjjnhikbdaaa
open Go.RowKit Go.Maps
set_option linter.unusedVariables false
set_option linter.unusedSimpArgs false

/-- How far the fronts have been opened. -/
structure OpI (w : World) (cs : List SD) (k : Nat) (v : Value) (W : World) : Prop where
  hB : W.heap[w.heap.size]? = some (.cells #[v, .func (.func 23) #[] #[]] 68 (0, 0))
  row : W.ownsRow (w.heap.size + 1) 70 6 v (psK cs k).length (cellsF cs (hdC cs) (psK cs k))
  src : SrcAll W cs (fun p => if p < k then min 1 (cs.getD p sd0).xs.length else 0)
  kept : OnlyS cs w W
theorem OpI.lt {w : World} {cs : List SD} {k : Nat} {v : Value} {W : World} (h : OpI w cs k v W) : w.heap.size < W.heap.size := heap_lt h.hB
theorem OpI.below {w : World} {cs : List SD} {k : Nat} {v : Value} {W W' : World} (h : OpI w cs k v W) (hb : Below W.heap.size W W') : OpI w cs k v W' :=
  ⟨(hb.block _ (heap_lt h.hB)).trans h.hB, owns_keepB h.row (fun g hg => hb.block g (owns_ltB h.row g hg)), h.src.below hb, h.kept.trans (OnlyS.of hb)⟩
/-- The source at k has none. -/
theorem OpI.none_ {w : World} {cs : List SD} {k : Nat} {v : Value} {W : World} (h : OpI w cs k v W) (hk : (cs.getD k sd0).xs = []) : OpI w cs (k + 1) v W := by
  have e : psK cs (k + 1) = psK cs k := by rw [psK_succ, hk]; simp
  refine ⟨h.hB, by rw [e]; exact h.row, h.src.cong (fun p hp => ?_), h.kept⟩
  by_cases h1 : p = k
  · subst h1
    rw [if_neg (Nat.lt_irrefl _), if_pos (by omega), hk]; simp
  · by_cases h2 : p < k
    · rw [if_pos h2, if_pos (by omega)]
    · rw [if_neg h2, if_neg (by omega)]
theorem front_info : (Try.prog.info? 70).map (fun i => (i.zero, i.size, i.bytes)) = some (some (.agg #[.string ByteArray.empty, .int .i64 0, .int .i64 0, .string ByteArray.empty, .int .i64 0, .nilFunc]), 6, 64) := by kernel_rfl
theorem cell_first6 (w : World) (x0 x1 x2 x3 x4 x5 : Value) (t : TypeId) : ∀ j v, [x0, x1, x2, x3, x4, x5][j]? = some v → (w.alloc (.cells #[x0, x1, x2, x3, x4, x5] t)).cell? ((⟨w.heap.size, 0, none⟩ : Addr).add j) = some v := by
  intro j v hj
  rw [Go.WideShapes.add_plain]
  match j, hj with
  | 0, hj => simp at hj; subst hj; simp
  | 1, hj => simp at hj; subst hj; simp
  | 2, hj => simp at hj; subst hj; simp
  | 3, hj => simp at hj; subst hj; simp
  | 4, hj => simp at hj; subst hj; simp
  | 5, hj => simp at hj; subst hj; simp
theorem step_append_own {P : Program} {ops : Array Oper} {o : Oper} {a : Act} {w : World} {K : Act → World → Prop} {Q : Exit → Act → World → Prop} {E : Prop}
    (hg : o.guard = none) (s x : Operand) (t : TypeId) (ho : o.op = Op.call { callee := Callee.builtin Builtin.append, args := #[s, x], argTypes := #[t, t] })
    (base : Nat) (e : TypeId) (i : TypeInfo) (z : Value) (size bytes : Nat) (ht : P.underlying t = some (.slice e)) (hi : P.info? e = some i) (hz : i.zero = some z)
    (hsize : i.size = size) (hby : i.bytes = bytes) (hzs : z.cells.size = size) (hsz : 0 < size)
    (v : Value) (n : Nat) (xs : List Value) (hs : a.eval s = v) (hown : w.ownsRow base e size v n xs)
    (ad : Addr) (m c : Nat) (news : List Value) (hx : a.eval x = .slice (some ad) m c) (hl : news.length = m * size) (hnews : ∀ j u, news[j]? = some u → w.cell? (ad.add j) = some u) (h1 : ∀ u ∈ news, u.oneCell' = true)
    (h63 : n + m ≤ maxLen) (hbytes : (n + m) * bytes ≤ 140737488355328) (hbase : base ≤ w.heap.size)
    (h : ∀ v' w', w'.ownsRow base e size v' (n + m) (xs ++ news) → w.grownBy w' v.ownBlock → (v' = .slice none 0 0 ↔ v = .slice none 0 0 ∧ m = 0) → K (a.put o.dst v') w') :
    if Region.wanted o (yielded ops a.tmps) = true then Oper.wp P o a w K Q else E := by
  have hw : Region.wanted o (yielded ops a.tmps) = true := by simp [Region.wanted, hg]
  rw [if_pos hw]
  exact wp_append_own w s x t ho base e i z size bytes ht hi hz hsize hby hzs hsz v n xs hs hown ad m c news hx hl hnews h1 h63 hbytes hbase h
theorem twoFz {w : World} {g : Nat} {v u : Value} {t : TypeId} (h : w.heap[g]? = some (.cells #[v, u] t (0, 0))) : w.frozen? ⟨g, 0, none⟩ = false := by
  simp [World.frozen?, h]
theorem owns_baseN {w : World} {B n size : Nat} {e : TypeId} {v : Value} {xs : List Value} (h : w.ownsRow B e size v n xs) : ∀ k, v.ownBlock = some k → B ≤ k := by
  intro k hk
  rcases h.2 with ⟨rfl, _⟩ | ⟨g, cap, cur, rfl, hg, _⟩
  · cases hk
  · cases hk; exact hg
theorem OpI.start {w : World} {cs : List SD} (hA : SrcAll w cs (fun _ => 0)) : OpI w cs 0 (.slice none 0 0) (w.alloc (.cells #[.slice none 0 0, .func (.func 23) #[] #[]] 68)) :=
  ⟨World.heap_alloc_new _ _, ⟨rfl, .inl ⟨rfl, rfl⟩⟩, (hA.below ((Below.refl _ _).alloc (Nat.le_refl _) _)).cong (fun p hp => by simp), OnlyS.of ((Below.refl _ _).alloc (Nat.le_refl _) _)⟩
/-- The next front has been put behind the others. -/
theorem OpI.some_ {w : World} {cs : List SD} {k : Nat} {v : Value} {W w1 w2 w8 : World} {g8 c8 : Nat} (h : OpI w cs k v W) (hA : SrcAll w cs (fun _ => 0)) (hD : PaD cs) (hk : k < cs.length) (hne : (cs.getD k sd0).xs ≠ [])
    (hs : SrcAt w1 (cs.getD k sd0) 1) (ho : OnlyG (cs.getD k sd0).pa W w1) (h12 : Below w1.heap.size w1 w2) (h28 : Below (w.heap.size + 1) w2 w8)
    (hown : w8.ownsRow (w.heap.size + 1) 70 6 (.slice (some ⟨g8, 0, none⟩) ((psK cs k).length + 1) c8) ((psK cs k).length + 1) (cellsF cs (hdC cs) (psK cs k) ++ cellF cs (hdC cs) k)) :
    OpI w cs (k + 1) (.slice (some ⟨g8, 0, none⟩) ((psK cs k).length + 1) c8) (w8.setCell ⟨w.heap.size, 0, none⟩ (.slice (some ⟨g8, 0, none⟩) ((psK cs k).length + 1) c8)) := by
  have e : psK cs (k + 1) = psK cs k ++ [k] := by
    rw [psK_succ]
    have : (cs.getD k sd0).xs.isEmpty = false := by cases hx : (cs.getD k sd0).xs with
      | nil => exact absurd hx hne
      | cons x t => rfl
    rw [this]; rfl
  have hpa : (cs.getD k sd0).pa < w.heap.size := (hA k hk).low.1
  have hl := h.lt
  have hB1 := (ho.block _ hl (by omega)).trans h.hB
  have hB2 := (h12.block _ (heap_lt hB1)).trans hB1
  have hB8 := (h28.block _ (by omega)).trans hB2
  have hO : OnlyG w.heap.size w8 (w8.setCell ⟨w.heap.size, 0, none⟩ (.slice (some ⟨g8, 0, none⟩) ((psK cs k).length + 1) c8)) := OnlyG.set _ _ _
  have hg8 : w.heap.size + 1 ≤ g8 := owns_baseN hown g8 rfl
  have hs1 := h.src.ask hD hk ho (by simpa using hs)
  refine ⟨?_, ?_, ?_, ?_⟩
  · have := heap_setCell_same w8 w.heap.size 0 _ _ (.slice (some ⟨g8, 0, none⟩) ((psK cs k).length + 1) c8) hB8
    simpa using this
  · rw [e, cellsF_snoc, List.length_append]
    refine owns_keepB hown (fun g hg => hO.block g ?_ ?_)
    · exact owns_ltB hown g hg
    · have := owns_baseN hown g hg; omega
  · refine (SrcAll.keep (B := w.heap.size) hs1 (fun p hp => (hA p hp).low) (fun j hj => ?_) ?_).cong (fun p hp => ?_)
    · have hj1 : j < w1.heap.size := by have := ho.size; omega
      exact (hO.block j (by have := h28.size; have := h12.size; omega) (by omega)).trans ((h28.block j (by omega)).trans (h12.block j hj1))
    · have := h28.size; have := h12.size; have := hO.size; omega
    · by_cases h1 : p = k
      · subst h1
        simp only [if_pos, Nat.lt_irrefl, if_false]
        rw [if_pos (by omega)]
        have : 0 < (cs.getD p sd0).xs.length := List.length_pos_iff.2 hne
        omega
      · simp only [if_neg h1]
        by_cases h2 : p < k
        · rw [if_pos h2, if_pos (by omega)]
        · rw [if_neg h2, if_neg (by omega)]
  · have k1 := h.kept.trans (OnlyS.one hk ho)
    have k2 := k1.trans (OnlyS.of h12)
    have k3 := k2.then h28 (by omega)
    exact k3.then (B := w.heap.size) (hO.below (Nat.le_refl _) (by have := k3.size; omega)) (Nat.le_refl _)
/-- The heap's block, and the fronts behind it. -/
def FrO (w : World) (hb B : Nat) (cs : List SD) (hd : Nat → En) (ps : List Nat) : Prop :=
  ∃ a cap, w.heap[hb]? = some (.cells #[.slice a ps.length cap, .func (.func 23) #[] #[]] 68 (0, 0)) ∧ ps.length ≤ cap ∧ (ps = [] ∨ ∃ g n, a = some ⟨g, 0, none⟩ ∧ B ≤ g ∧ n ≤ 1048576 ∧ RowF w g n cs hd ps)
set_option maxRecDepth 100000 in
set_option maxHeartbeats 8000000 in
theorem openFronts_any (a : Option Addr) (cap : Nat) (cs : List SD) (w : World) (hS : LieS w a cs) (hA : SrcAll w cs (fun _ => 0)) (hD : PaD cs) (hl : cs.length ≤ 1048576) :
    Calls Try.prog 36 #[.func (.func 23) #[] #[], .slice a cs.length cap] w fun e w' => ∃ ps, e = .returned (.pointer (some ⟨w.heap.size, 0, none⟩)) ∧ FrO w' w.heap.size (w.heap.size + 1) cs (hdC cs) ps ∧ ps.Perm (psK cs cs.length) ∧ HpF (ltP (hdC cs)) ps 0 ∧ SrcAll w' cs (fun p => min 1 (cs.getD p sd0).xs.length) ∧ OnlyS cs w w' := by
  have HS := hdN hS
  have HA := hdN hA
  have HD := hdN hD
  have H0 := hdN (OpI.start hA)
  obtain ⟨i0, hi, hz0, hz1, hz2⟩ := info_parts front_info
  obtain ⟨hd, hhd⟩ : ∃ hd, hd = hdC cs := ⟨_, rfl⟩
  obtain ⟨ps, hps⟩ : ∃ ps, ps = psK cs cs.length := ⟨_, rfl⟩
  rw [← hhd, ← hps]
  have HHD := hdN hhd
  have HPD := hdN hps
  clear hS hA hD hhd hps
  generalize hn : cs.length = n at *
  have HN := hdN hn
  clear hn
  go_enter Try.func36, Try.ntmps36
  go_wp2_with fail
  go_loopw [16] (fun v16 W => ∃ (k : Nat) (v : Value), v16 = .int .i64 (k : Int) ∧ k ≤ n ∧ Hid (OpI w cs k v W)) (fun v16 _ => n - (intOf v16).toNat)
  case atStart => exact ⟨0, _, rfl, Nat.zero_le _, H0⟩
  case round =>
    clear H0
    obtain ⟨k, v, rfl, hk, HI⟩ := hrel
    by_cases hkn : k < n
    · have hkn' : (k : Int) < (n : Int) := by omega
      obtain ⟨b, off, rfl, hbl, z0⟩ := (HS.out.only HA.out HI.out.kept).at (p := k) (by rw [HN.out]; exact hkn)
      have hsr := HI.out.src k (by rw [HN.out]; exact hkn)
      simp only [Nat.lt_irrefl, if_false] at hsr
      have HSR := hdN hsr
      clear hsr
      by_cases hx : (cs.getD k sd0).xs = []
      · have HX := hdN hx
        have HNX := hdN (next_none (cs.getD k sd0) wr (by rw [hx]; exact HSR.out))
        have HI1 := hdN (HI.out.none_ hx)
        clear hx HSR HI
        generalize cs.getD k sd0 = c at *
        go_wp2_with fail
        refine HNX.out.mono ?_
        rintro e w1 ⟨rfl, hb1⟩
        have HI2 := hdN (HI1.out.below hb1)
        clear HI1 HNX hb1 z0 hbl
        go_wp2_with fail
        refine ⟨⟨k + 1, v, by first | rfl | go_num, by omega, ?_⟩, by simp only [intOf]; omega⟩
        exact HI2.out.below ((Below.refl _ _).alloc (Nat.le_refl _) _)
      · have HX := hdN hx
        have HNX := hdN (next_some (cs.getD k sd0) 0 wr HSR.out (List.length_pos_iff.2 hx))
        have HSM := hdN (fun (w1 w2 w8 : World) (g8 c8 : Nat) => OpI.some_ (w1 := w1) (w2 := w2) (w8 := w8) (g8 := g8) (c8 := c8) HI.out HA.out HD.out (by rw [HN.out]; exact hkn) hx)
        have HHd : Hid ((cs.getD k sd0).xs.getD 0 en0 = hdC cs k) := by
          show _ = _
          unfold hdC
          cases (cs.getD k sd0).xs <;> rfl
        have HPA : Hid ((cs.getD k sd0).pa < w.heap.size) := (HA.out k (by rw [HN.out]; exact hkn)).low.1
        have HCF : Hid (cellF cs (hdC cs) k = [.string (hdC cs k).ky, .int .i64 (hdC cs k).sq, .int .i64 (hdC cs k).kd, .string (hdC cs k).vl, .int .i64 (k : Int), (cs.getD k sd0).fn]) := rfl
        rw [HHd.out] at HNX
        have HPL := hdN (psK_len cs k)
        have HRW := hdN HI.out.row
        have hhb := HI.out.lt
        have HHB := hdN HI.out.hB
        clear hx HSR HHd
        generalize cs.getD k sd0 = c at *
        generalize hdC cs k = x at *
        generalize psK cs k = ps at *
        go_wp2_with fail
        refine HNX.out.mono ?_
        rintro e w1 ⟨rfl, hs1, ho1⟩
        have HS1 := hdN hs1
        have HO1 := hdN ho1
        have hB1 := (ho1.block _ hhb (by have := HPA.out; omega)).trans HHB.out
        have HRW1 : Hid (w1.ownsRow (w.heap.size + 1) 70 6 v ps.length (cellsF cs (hdC cs) ps)) := owns_keepB HRW.out (fun g hg => ho1.block g (owns_ltB HRW.out g hg) (by have h1 := owns_baseN HRW.out g hg; have h2 := HPA.out; omega))
        clear hs1 ho1 HNX z0 hbl HI HRW HHB hhb
        go_upto_region 7 with fail
        generalize hw2 : w1.alloc (.cells #[.string x.ky, .int .i64 x.sq, .int .i64 x.kd, .string x.vl] 40) = w2 at *
        have hb2 : Below w1.heap.size w1 w2 := by rw [← hw2]; exact (Below.refl _ _).alloc (Nat.le_refl _) _
        have hvb : w2.heap[w1.heap.size]? = some (.cells #[.string x.ky, .int .i64 x.sq, .int .i64 x.kd, .string x.vl] 40 (0, 0)) := by rw [← hw2]; exact World.heap_alloc_new _ _
        obtain ⟨x0, x1, x2, x3⟩ := fourB hvb
        have hvl := heap_lt hvb
        have hB2 := (hb2.block _ (heap_lt hB1)).trans hB1
        obtain ⟨y0, y1⟩ := twoN hB2
        have yf := twoFz hB2
        have hhb := heap_lt hB2
        have HRW2 : Hid (w2.ownsRow (w.heap.size + 1) 70 6 v ps.length (cellsF cs (hdC cs) ps)) := owns_keepB HRW1.out (fun g hg => hb2.block g (owns_ltB HRW1.out g hg))
        have HB2 := hdN hb2
        have HHB2 := hdN hB2
        generalize hvn : w1.heap.size = vb at *
        have HVN := hdN hvn
        clear hw2 hb2 hB2 hB1 HRW1 hvb hvn
        go_region_law ((refine step_append_own rfl (.tmp 31) (.tmp 36) 66 rfl (w.heap.size + 1) 70 i0 _ 6 64 Try.underlying66 hi hz0 hz1 hz2 rfl (by decide) _ _ _ (by simp [Act.eval, Act.put]) ((HRW2.out.alloc (.cells #[.string x.ky, .int .i64 x.sq, .int .i64 x.kd, .string x.vl, .int .i64 (k : Int), c.fn] 70)).drew) ⟨w2.heap.size, 0, none⟩ 1 1 [.string x.ky, .int .i64 x.sq, .int .i64 x.kd, .string x.vl, .int .i64 (k : Int), c.fn] (by simp [Act.eval, Act.put]) rfl (cell_first6 w2 _ _ _ _ _ _ _) (fun x hx => by simp at hx; rcases hx with rfl | rfl | rfl | rfl | rfl | rfl <;> rfl) (by have := HPL.out; unfold maxLen; omega) (by have := HPL.out; omega) (by simp; omega) ?_; intro v8 w8 hown8 hgrow8 hnil8; obtain ⟨g8, cap8, rfl⟩ := owns_succD hown8; have hb8 : Below (w.heap.size + 1) w2 w8 := (((Below.refl (w.heap.size + 1) w2).alloc (by omega) _).drew).grown hgrow8 (by simp; omega) (owns_baseN HRW2.out); have hd8 := (hb8.block w.heap.size (by omega)).trans HHB2.out; have t8 := (twoN hd8).1; have u8 := twoFz hd8))
        all_goals
          have HOP := hdN (HSM.out w1 w2 w8 g8 cap8 HS1.out HO1.out (by rw [HVN.out]; exact HB2.out) hb8 (by rw [HCF.out]; exact hown8))
          clear hown8 hgrow8 hnil8 hb8 hd8 t8 u8 x0 x1 x2 x3 y0 y1 yf HRW2 HHB2 HB2 HS1 HO1 HSM hhb hvl HVN HCF
          go_wp2_with fail
          exact ⟨⟨k + 1, _, by first | rfl | go_num, by omega, HOP⟩, by simp only [intOf]; omega⟩
    · have hkn' : ¬ (k : Int) < (n : Int) := by omega
      have hke : k = n := by omega
      have HI2 : Hid (OpI w cs cs.length v wr) := by rw [HN.out, ← hke]; exact HI.out
      obtain ⟨-, a', cap', rfl, hcap, hrow⟩ := rowF_of_owns HI2.out.row
      have HPD2 : Hid (psK cs cs.length = ps) := by show _ = _; rw [HN.out]; exact HPD.out.symm
      rw [HPD2.out] at HI2
      rw [HPD2.out, ← HHD.out] at hrow
      rw [HPD2.out] at hcap
      have HE := hdN HI2.out.hB
      obtain ⟨y0, y1⟩ := twoN HI2.out.hB
      have hhb := HI2.out.lt
      clear HI hke
      have hpl : ps.length ≤ 1048576 := by rw [← HPD2.out]; exact Nat.le_trans (psK_len _ _) (by rw [HN.out]; exact hl)
      have HPs : Hid (SrcAll wr cs (fun p => min 1 (cs.getD p sd0).xs.length)) := HI2.out.src.cong (fun p hp => by simp [hp])
      have HKe := hdN HI2.out.kept
      have HP0 := hdN (List.Perm.refl ps)
      rcases hrow with hnil | ⟨g, rfl, hg, hrw⟩
      · have HNil := hdN hnil
        rw [hnil] at y0
        clear HI2 hnil
        go_wp2_with fail
        go_loopw [10] (fun v10 W => v10 = .int .i64 (-1) ∧ W = wr) (fun _ _ => 0)
        case atStart => exact ⟨by first | rfl | go_num, rfl⟩
        case round =>
          obtain ⟨rfl, hW⟩ := hrel
          replace hW := hW.symm
          subst hW
          go_wp2_with fail
          go_ret
          exact ⟨[], rfl, ⟨a', cap', by have h1 := HE.out; rw [HNil.out] at h1; exact h1, Nat.zero_le _, .inl rfl⟩, by rw [HNil.out], fun c h1 h2 => by simp at h2, HPs.out, HKe.out⟩
      · have HRw := hdN hrw
        have hne : w.heap.size ≠ g := by omega
        have HSB : Hid (∀ p, p < cs.length → SrcB w.heap.size (cs.getD p sd0)) := fun p hp => (HA.out p hp).low
        clear HI2 hrw
        have HH0 : Hid (HpF (ltP hd) ps (ps.length / 2)) := fun c h1 h2 h3 => by omega
        generalize hm : ps.length = m at *
        have HM := hdN hm
        clear hm
        have hm2 : ((m : Int) / 2) = ((m / 2 : Nat) : Int) := by omega
        generalize hmm : m / 2 = mm at *
        have hmmle : mm ≤ m := by omega
        clear hmm
        go_wp2_with fail
        obtain ⟨W0, hW0⟩ : ∃ W0, W0 = wr := ⟨_, rfl⟩
        subst hW0
        go_loopw [10] (fun v10 W => ∃ (j : Nat) (qs : List Nat), v10 = .int .i64 ((j : Int) - 1) ∧ j ≤ mm ∧ Hid (qs.Perm ps) ∧ Hid (qs.length = m) ∧ Hid (HpF (ltP hd) qs j) ∧ Hid (RowF W g m cs hd qs) ∧ Hid (FrB W w.heap.size g m cap') ∧ Hid (OnlyG g W0 W)) (fun v10 _ => (intOf v10 + 1).toNat)
        case atStart => exact ⟨mm, ps, by first | rfl | go_num, Nat.le_refl _, HP0, HM, HH0, HRw, HE, OnlyG.refl _ _⟩
        case round =>
          clear HRw HE HP0 HM HH0
          obtain ⟨j, qs, rfl, hj, HPq, HM, HHq, HRq, HBq, HOq⟩ := hrel
          by_cases hj0 : 0 < j
          · obtain ⟨i, hi0⟩ : ∃ i, j = i + 1 := ⟨j - 1, by omega⟩
            subst hi0
            have hji : (((i + 1 : Nat) : Int) - 1) = (i : Int) := by omega
            rw [hji]
            have HSk := hdN (sink_any w.heap.size g m cap' cs hd qs i wr (by rw [HM.out]; exact HBq.out) HRq.out hpl (by rw [HM.out]; omega) HHq.out)
            go_wp2_with fail
            refine HSk.out.mono ?_
            rintro e w5 ⟨⟨v5, rfl⟩, qs', hp5, hh5, hr5, ho5⟩
            have HP5 := hdN (hp5.trans HPq.out)
            have HM5 : Hid (qs'.length = m) := by show _ = _; rw [hp5.length_eq]; exact HM.out
            have HB5 := hdN (HBq.out.only hne ho5)
            have HO5 := hdN (HOq.out.trans ho5)
            have HH5 := hdN hh5
            have HR5 := hdN hr5
            clear hp5 hh5 hr5 ho5 HSk HPq HM HBq HOq HHq HRq
            go_wp2_with fail
            exact ⟨⟨i, qs', by first | rfl | go_num, by omega, HP5, HM5, HH5, HR5, HB5, HO5⟩, by simp only [intOf]; omega⟩
          · have hj1 : j = 0 := by omega
            subst hj1
            have HSr := hdN (HPs.out.keep HSB.out (fun i hi => HOq.out.block i (by omega) (by omega)) HOq.out.size)
            have HKr := hdN (HKe.out.then (HOq.out.below (B := w.heap.size) (by omega) (by omega)) (Nat.le_refl _))
            go_wp2_with fail
            go_ret
            exact ⟨qs, rfl, ⟨some ⟨g, 0, none⟩, cap', by rw [HM.out]; exact HBq.out, by rw [HM.out]; exact hcap, .inr ⟨g, m, rfl, by omega, hpl, HRq.out⟩⟩, HPq.out, HHq.out, HSr.out, HKr.out⟩
end Go.Proofs.Ytgkhjjnhikbdaaa
