import Derived.Test.YtgmfjninimebmaaGreatDoorMgNwV
import Derived.Laws.EntriesVeiled
import Derived.Deep.RegionLaw
import Derived.BigRegion
namespace Go.Proofs.YtgmfjninimebmaaGreatDoor
open Go.RowKit Go.Maps
set_option linter.unusedVariables false
set_option linter.unusedSimpArgs false

/-- How far the fronts have been opened. -/
structure OpI (w : World) (cs : List SD) (k : Nat) (v : Value) (W : World) : Prop where
  hB : W.heap[w.heap.size]? = some (.cells #[v, .func (.func 86) #[] #[]] 184 (0, 0))
  row : W.ownsRow (w.heap.size + 1) 186 6 v (psK cs k).length (cellsF cs (hdC cs) (psK cs k))
  src : SrcAll W cs (fun p => if p < k then min 1 (cs.getD p sd0).xs.length else 0)
  kept : OnlyS cs w W
theorem OpI.lt {w : World} {cs : List SD} {k : Nat} {v : Value} {W : World} (h : OpI w cs k v W) : w.heap.size < W.heap.size := heap_lt h.hB
theorem OpI.below {w : World} {cs : List SD} {k : Nat} {v : Value} {W W' : World} (h : OpI w cs k v W) (hb : Below W.heap.size W W') : OpI w cs k v W' :=
  ⟨(hb.block _ (heap_lt h.hB)).trans h.hB, owns_keepB h.row (fun g hg => hb.block g (owns_ltB h.row g hg)), h.src.below hb, h.kept.trans (OnlyS.of hb)⟩
/-- The source at k has none. -/
theorem OpI.none_ {w : World} {cs : List SD} {k : Nat} {v : Value} {W : World} (h : OpI w cs k v W) (hk : (cs.getD k sd0).xs = []) : OpI w cs (k + 1) v W := by
  have e : psK cs (k + 1) = psK cs k := by rw [psK_succ, hk]; simp
  refine ⟨h.hB, by rw [e]; exact h.row, h.src.cong (fun p hp => ?_), h.kept⟩
  by_cases h1 : p = k
  · subst h1
    rw [if_neg (Nat.lt_irrefl _), if_pos (by omega), hk]; simp
  · by_cases h2 : p < k
    · rw [if_pos h2, if_pos (by omega)]
    · rw [if_neg h2, if_neg (by omega)]
theorem front_info : (Tryz.prog.info? 186).map (fun i => (i.zero, i.size, i.bytes)) = some (some (.agg #[.string ByteArray.empty, .int .i64 0, .int .i64 0, .string ByteArray.empty, .int .i64 0, .nilFunc]), 6, 64) := by kernel_rfl
theorem cell_first6 (w : World) (x0 x1 x2 x3 x4 x5 : Value) (t : TypeId) : ∀ j v, [x0, x1, x2, x3, x4, x5][j]? = some v → (w.alloc (.cells #[x0, x1, x2, x3, x4, x5] t)).cell? ((⟨w.heap.size, 0, none⟩ : Addr).add j) = some v := by
  intro j v hj
  rw [Go.WideShapes.add_plain]
  match j, hj with
  | 0, hj => simp at hj; subst hj; simp
  | 1, hj => simp at hj; subst hj; simp
  | 2, hj => simp at hj; subst hj; simp
  | 3, hj => simp at hj; subst hj; simp
  | 4, hj => simp at hj; subst hj; simp
  | 5, hj => simp at hj; subst hj; simp
theorem step_append_own {P : Program} {ops : Array Oper} {o : Oper} {a : Act} {w : World} {K : Act → World → Prop} {Q : Exit → Act → World → Prop} {E : Prop}
    (hg : o.guard = none) (s x : Operand) (t : TypeId) (ho : o.op = Op.call { callee := Callee.builtin Builtin.append, args := #[s, x], argTypes := #[t, t] })
    (base : Nat) (e : TypeId) (i : TypeInfo) (z : Value) (size bytes : Nat) (ht : P.underlying t = some (.slice e)) (hi : P.info? e = some i) (hz : i.zero = some z)
    (hsize : i.size = size) (hby : i.bytes = bytes) (hzs : z.cells.size = size) (hsz : 0 < size)
    (v : Value) (n : Nat) (xs : List Value) (hs : a.eval s = v) (hown : w.ownsRow base e size v n xs)
    (ad : Addr) (m c : Nat) (news : List Value) (hx : a.eval x = .slice (some ad) m c) (hl : news.length = m * size) (hnews : ∀ j u, news[j]? = some u → w.cell? (ad.add j) = some u) (h1 : ∀ u ∈ news, u.oneCell' = true)
    (h63 : n + m ≤ maxLen) (hbytes : (n + m) * bytes ≤ 140737488355328) (hbase : base ≤ w.heap.size)
    (h : ∀ v' w', w'.ownsRow base e size v' (n + m) (xs ++ news) → w.grownBy w' v.ownBlock → (v' = .slice none 0 0 ↔ v = .slice none 0 0 ∧ m = 0) → K (a.put o.dst v') w') :
    if Region.wanted o (yielded ops a.tmps) = true then Oper.wp P o a w K Q else E := by
  have hw : Region.wanted o (yielded ops a.tmps) = true := by simp [Region.wanted, hg]
  rw [if_pos hw]
  exact wp_append_own w s x t ho base e i z size bytes ht hi hz hsize hby hzs hsz v n xs hs hown ad m c news hx hl hnews h1 h63 hbytes hbase h
theorem twoFz {w : World} {g : Nat} {v u : Value} {t : TypeId} (h : w.heap[g]? = some (.cells #[v, u] t (0, 0))) : w.frozen? ⟨g, 0, none⟩ = false := by
  simp [World.frozen?, h]
theorem owns_baseN {w : World} {B n size : Nat} {e : TypeId} {v : Value} {xs : List Value} (h : w.ownsRow B e size v n xs) : ∀ k, v.ownBlock = some k → B ≤ k := by
  intro k hk
  rcases h.2 with ⟨rfl, _⟩ | ⟨g, cap, cur, rfl, hg, _⟩
  · cases hk
  · cases hk; exact hg
theorem OpI.start {w : World} {cs : List SD} (hA : SrcAll w cs (fun _ => 0)) : OpI w cs 0 (.slice none 0 0) (w.alloc (.cells #[.slice none 0 0, .func (.func 86) #[] #[]] 184)) :=
  ⟨World.heap_alloc_new _ _, ⟨rfl, .inl ⟨rfl, rfl⟩⟩, (hA.below ((Below.refl _ _).alloc (Nat.le_refl _) _)).cong (fun p hp => by simp), OnlyS.of ((Below.refl _ _).alloc (Nat.le_refl _) _)⟩
/-- The next front has been put behind the others. -/
theorem OpI.some_ {w : World} {cs : List SD} {k : Nat} {v : Value} {W w1 w2 w8 : World} {g8 c8 : Nat} (h : OpI w cs k v W) (hA : SrcAll w cs (fun _ => 0)) (hD : PaD cs) (hk : k < cs.length) (hne : (cs.getD k sd0).xs ≠ [])
    (hs : SrcAt w1 (cs.getD k sd0) 1) (ho : OnlyG (cs.getD k sd0).pa W w1) (h12 : Below w1.heap.size w1 w2) (h28 : Below (w.heap.size + 1) w2 w8)
    (hown : w8.ownsRow (w.heap.size + 1) 186 6 (.slice (some ⟨g8, 0, none⟩) ((psK cs k).length + 1) c8) ((psK cs k).length + 1) (cellsF cs (hdC cs) (psK cs k) ++ cellF cs (hdC cs) k)) :
    OpI w cs (k + 1) (.slice (some ⟨g8, 0, none⟩) ((psK cs k).length + 1) c8) (w8.setCell ⟨w.heap.size, 0, none⟩ (.slice (some ⟨g8, 0, none⟩) ((psK cs k).length + 1) c8)) := by
  have e : psK cs (k + 1) = psK cs k ++ [k] := by
    rw [psK_succ]
    have : (cs.getD k sd0).xs.isEmpty = false := by cases hx : (cs.getD k sd0).xs with
      | nil => exact absurd hx hne
      | cons x t => rfl
    rw [this]; rfl
  have hpa : (cs.getD k sd0).pa < w.heap.size := (hA k hk).low.1
  have hl := h.lt
  have hB1 := (ho.block _ hl (by omega)).trans h.hB
  have hB2 := (h12.block _ (heap_lt hB1)).trans hB1
  have hB8 := (h28.block _ (by omega)).trans hB2
  have hO : OnlyG w.heap.size w8 (w8.setCell ⟨w.heap.size, 0, none⟩ (.slice (some ⟨g8, 0, none⟩) ((psK cs k).length + 1) c8)) := OnlyG.set _ _ _
  have hg8 : w.heap.size + 1 ≤ g8 := owns_baseN hown g8 rfl
  have hs1 := h.src.ask hD hk ho (by simpa using hs)
  refine ⟨?_, ?_, ?_, ?_⟩
  · have := heap_setCell_same w8 w.heap.size 0 _ _ (.slice (some ⟨g8, 0, none⟩) ((psK cs k).length + 1) c8) hB8
    simpa using this
  · rw [e, cellsF_snoc, List.length_append]
    refine owns_keepB hown (fun g hg => hO.block g ?_ ?_)
    · exact owns_ltB hown g hg
    · have := owns_baseN hown g hg; omega
  · refine (SrcAll.keep (B := w.heap.size) hs1 (fun p hp => (hA p hp).low) (fun j hj => ?_) ?_).cong (fun p hp => ?_)
    · have hj1 : j < w1.heap.size := by have := ho.size; omega
      exact (hO.block j (by have := h28.size; have := h12.size; omega) (by omega)).trans ((h28.block j (by omega)).trans (h12.block j hj1))
    · have := h28.size; have := h12.size; have := hO.size; omega
    · by_cases h1 : p = k
      · subst h1
        simp only [if_pos, Nat.lt_irrefl, if_false]
        rw [if_pos (by omega)]
        have : 0 < (cs.getD p sd0).xs.length := List.length_pos_iff.2 hne
        omega
      · simp only [if_neg h1]
        by_cases h2 : p < k
        · rw [if_pos h2, if_pos (by omega)]
        · rw [if_neg h2, if_neg (by omega)]
  · have k1 := h.kept.trans (OnlyS.one hk ho)
    have k2 := k1.trans (OnlyS.of h12)
    have k3 := k2.then h28 (by omega)
    exact k3.then (B := w.heap.size) (hO.below (Nat.le_refl _) (by have := k3.size; omega)) (Nat.le_refl _)
/-- The heap's block, and the fronts behind it. -/
def FrO (w : World) (hb B : Nat) (cs : List SD) (hd : Nat → En) (ps : List Nat) : Prop :=
  ∃ a cap, w.heap[hb]? = some (.cells #[.slice a ps.length cap, .func (.func 86) #[] #[]] 184 (0, 0)) ∧ ps.length ≤ cap ∧ (ps = [] ∨ ∃ g n, a = some ⟨g, 0, none⟩ ∧ B ≤ g ∧ n ≤ 1048576 ∧ RowF w g n cs hd ps)
set_option maxRecDepth 100000 in
set_option maxHeartbeats 8000000 in
theorem openFronts_any (a : Option Addr) (cap : Nat) (cs : List SD) (w : World) (hS : LieSE w a cs) (hA : SrcAll w cs (fun _ => 0)) (hD : PaD cs) (hl : cs.length ≤ 1048576) :
    Calls Tryz.prog 132 #[.func (.func 86) #[] #[], .slice a cs.length cap] w fun e w' => ∃ ps, e = .returned (.pointer (some ⟨w.heap.size, 0, none⟩)) ∧ FrO w' w.heap.size (w.heap.size + 1) cs (hdC cs) ps ∧ ps.Perm (psK cs cs.length) ∧ HpF (ltP (hdC cs)) ps 0 ∧ SrcAll w' cs (fun p => min 1 (cs.getD p sd0).xs.length) ∧ OnlyS cs w w' := by
  have HS := hdN hS
  have HA := hdN hA
  have HD := hdN hD
  have H0 := hdN (OpI.start hA)
  obtain ⟨i0, hi, hz0, hz1, hz2⟩ := info_parts front_info
  obtain ⟨hd, hhd⟩ : ∃ hd, hd = hdC cs := ⟨_, rfl⟩
  obtain ⟨ps, hps⟩ : ∃ ps, ps = psK cs cs.length := ⟨_, rfl⟩
  rw [← hhd, ← hps]
  have HHD := hdN hhd
  have HPD := hdN hps
  clear hS hA hD hhd hps
  generalize hn : cs.length = n at *
  have HN := hdN hn
  clear hn
  go_enter Tryz.func132, Tryz.ntmps132
  go_wp2_with fail
  go_loopw [16] (fun v16 W => ∃ (k : Nat) (v : Value), v16 = .int .i64 (k : Int) ∧ k ≤ n ∧ Hid (OpI w cs k v W)) (fun v16 _ => n - (intOf v16).toNat)
  case atStart => exact ⟨0, _, rfl, Nat.zero_le _, H0⟩
  case round =>
    clear H0
    obtain ⟨k, v, rfl, hk, HI⟩ := hrel
    by_cases hkn : k < n
    · have hkn' : (k : Int) < (n : Int) := by omega
      obtain ⟨b, off, rfl, hbl, z0⟩ := (HS.out.only HA.out HI.out.kept).at (p := k) (by rw [HN.out]; exact hkn)
      have hsr := HI.out.src k (by rw [HN.out]; exact hkn)
      simp only [Nat.lt_irrefl, if_false] at hsr
      have HSR := hdN hsr
      clear hsr
      by_cases hx : (cs.getD k sd0).xs = []
      · have HX := hdN hx
        have HNX := hdN (next_none (cs.getD k sd0) wr (by rw [hx]; exact HSR.out))
        have HI1 := hdN (HI.out.none_ hx)
        clear hx HSR HI
        generalize cs.getD k sd0 = c at *
        go_wp2_with fail
        refine HNX.out.mono ?_
        rintro e w1 ⟨rfl, hb1⟩
        have HI2 := hdN (HI1.out.below hb1)
        clear HI1 HNX hb1 z0 hbl
        go_wp2_with fail
        refine ⟨⟨k + 1, v, by first | rfl | go_num, by omega, ?_⟩, by simp only [intOf]; omega⟩
        exact HI2.out.below ((Below.refl _ _).alloc (Nat.le_refl _) _)
      · have HX := hdN hx
        have HNX := hdN (next_some (cs.getD k sd0) 0 wr HSR.out (List.length_pos_iff.2 hx))
        have HSM := hdN (fun (w1 w2 w8 : World) (g8 c8 : Nat) => OpI.some_ (w1 := w1) (w2 := w2) (w8 := w8) (g8 := g8) (c8 := c8) HI.out HA.out HD.out (by rw [HN.out]; exact hkn) hx)
        have HHd : Hid ((cs.getD k sd0).xs.getD 0 en0 = hdC cs k) := by
          show _ = _
          unfold hdC
          cases (cs.getD k sd0).xs <;> rfl
        have HPA : Hid ((cs.getD k sd0).pa < w.heap.size) := (HA.out k (by rw [HN.out]; exact hkn)).low.1
        have HCF : Hid (cellF cs (hdC cs) k = [.string (hdC cs k).ky, .int .i64 (hdC cs k).sq, .int .i64 (hdC cs k).kd, .string (hdC cs k).vl, .int .i64 (k : Int), (cs.getD k sd0).fn]) := rfl
        rw [HHd.out] at HNX
        have HPL := hdN (psK_len cs k)
        have HRW := hdN HI.out.row
        have hhb := HI.out.lt
        have HHB := hdN HI.out.hB
        clear hx HSR HHd
        generalize cs.getD k sd0 = c at *
        generalize hdC cs k = x at *
        generalize psK cs k = ps at *
        go_wp2_with fail
        refine HNX.out.mono ?_
        rintro e w1 ⟨rfl, hs1, ho1⟩
        have HS1 := hdN hs1
        have HO1 := hdN ho1
        have hB1 := (ho1.block _ hhb (by have := HPA.out; omega)).trans HHB.out
        have HRW1 : Hid (w1.ownsRow (w.heap.size + 1) 186 6 v ps.length (cellsF cs (hdC cs) ps)) := owns_keepB HRW.out (fun g hg => ho1.block g (owns_ltB HRW.out g hg) (by have h1 := owns_baseN HRW.out g hg; have h2 := HPA.out; omega))
        clear hs1 ho1 HNX z0 hbl HI HRW HHB hhb
        go_upto_region 7 with fail
        generalize hw2 : w1.alloc (.cells #[.string x.ky, .int .i64 x.sq, .int .i64 x.kd, .string x.vl] 50) = w2 at *
        have hb2 : Below w1.heap.size w1 w2 := by rw [← hw2]; exact (Below.refl _ _).alloc (Nat.le_refl _) _
        have hvb : w2.heap[w1.heap.size]? = some (.cells #[.string x.ky, .int .i64 x.sq, .int .i64 x.kd, .string x.vl] 50 (0, 0)) := by rw [← hw2]; exact World.heap_alloc_new _ _
        obtain ⟨x0, x1, x2, x3⟩ := fourB hvb
        have hvl := heap_lt hvb
        have hB2 := (hb2.block _ (heap_lt hB1)).trans hB1
        obtain ⟨y0, y1⟩ := twoN hB2
        have yf := twoFz hB2
        have hhb := heap_lt hB2
        have HRW2 : Hid (w2.ownsRow (w.heap.size + 1) 186 6 v ps.length (cellsF cs (hdC cs) ps)) := owns_keepB HRW1.out (fun g hg => hb2.block g (owns_ltB HRW1.out g hg))
        have HB2 := hdN hb2
        have HHB2 := hdN hB2
        generalize hvn : w1.heap.size = vb at *
        have HVN := hdN hvn
        clear hw2 hb2 hB2 hB1 HRW1 hvb hvn
        go_region_law ((refine step_append_own rfl (.tmp 31) (.tmp 36) 182 rfl (w.heap.size + 1) 186 i0 _ 6 64 Tryz.underlying182 hi hz0 hz1 hz2 rfl (by decide) _ _ _ (by simp [Act.eval, Act.put]) ((HRW2.out.alloc (.cells #[.string x.ky, .int .i64 x.sq, .int .i64 x.kd, .string x.vl, .int .i64 (k : Int), c.fn] 186)).drew) ⟨w2.heap.size, 0, none⟩ 1 1 [.string x.ky, .int .i64 x.sq, .int .i64 x.kd, .string x.vl, .int .i64 (k : Int), c.fn] (by simp [Act.eval, Act.put]) rfl (cell_first6 w2 _ _ _ _ _ _ _) (fun x hx => by simp at hx; rcases hx with rfl | rfl | rfl | rfl | rfl | rfl <;> rfl) (by have := HPL.out; unfold maxLen; omega) (by have := HPL.out; omega) (by simp; omega) ?_; intro v8 w8 hown8 hgrow8 hnil8; obtain ⟨g8, cap8, rfl⟩ := owns_succD hown8; have hb8 : Below (w.heap.size + 1) w2 w8 := (((Below.refl (w.heap.size + 1) w2).alloc (by omega) _).drew).grown hgrow8 (by simp; omega) (owns_baseN HRW2.out); have hd8 := (hb8.block w.heap.size (by omega)).trans HHB2.out; have t8 := (twoN hd8).1; have u8 := twoFz hd8))
        all_goals
          have HOP := hdN (HSM.out w1 w2 w8 g8 cap8 HS1.out HO1.out (by rw [HVN.out]; exact HB2.out) hb8 (by rw [HCF.out]; exact hown8))
          clear hown8 hgrow8 hnil8 hb8 hd8 t8 u8 x0 x1 x2 x3 y0 y1 yf HRW2 HHB2 HB2 HS1 HO1 HSM hhb hvl HVN HCF
          go_wp2_with fail
          exact ⟨⟨k + 1, _, by first | rfl | go_num, by omega, HOP⟩, by simp only [intOf]; omega⟩
    · have hkn' : ¬ (k : Int) < (n : Int) := by omega
      have hke : k = n := by omega
      have HI2 : Hid (OpI w cs cs.length v wr) := by rw [HN.out, ← hke]; exact HI.out
      obtain ⟨-, a', cap', rfl, hcap, hrow⟩ := rowF_of_owns HI2.out.row
      have HPD2 : Hid (psK cs cs.length = ps) := by show _ = _; rw [HN.out]; exact HPD.out.symm
      rw [HPD2.out] at HI2
      rw [HPD2.out, ← HHD.out] at hrow
      rw [HPD2.out] at hcap
      have HE := hdN HI2.out.hB
      obtain ⟨y0, y1⟩ := twoN HI2.out.hB
      have hhb := HI2.out.lt
      clear HI hke
      have hpl : ps.length ≤ 1048576 := by rw [← HPD2.out]; exact Nat.le_trans (psK_len _ _) (by rw [HN.out]; exact hl)
      have HPs : Hid (SrcAll wr cs (fun p => min 1 (cs.getD p sd0).xs.length)) := HI2.out.src.cong (fun p hp => by simp [hp])
      have HKe := hdN HI2.out.kept
      have HP0 := hdN (List.Perm.refl ps)
      rcases hrow with hnil | ⟨g, rfl, hg, hrw⟩
      · have HNil := hdN hnil
        rw [hnil] at y0
        clear HI2 hnil
        go_wp2_with fail
        go_loopw [10] (fun v10 W => v10 = .int .i64 (-1) ∧ W = wr) (fun _ _ => 0)
        case atStart => exact ⟨by first | rfl | go_num, rfl⟩
        case round =>
          obtain ⟨rfl, hW⟩ := hrel
          replace hW := hW.symm
          subst hW
          go_wp2_with fail
          go_ret
          exact ⟨[], rfl, ⟨a', cap', by have h1 := HE.out; rw [HNil.out] at h1; exact h1, Nat.zero_le _, .inl rfl⟩, by rw [HNil.out], fun c h1 h2 => by simp at h2, HPs.out, HKe.out⟩
      · have HRw := hdN hrw
        have hne : w.heap.size ≠ g := by omega
        have HSB : Hid (∀ p, p < cs.length → SrcB w.heap.size (cs.getD p sd0)) := fun p hp => (HA.out p hp).low
        clear HI2 hrw
        have HH0 : Hid (HpF (ltP hd) ps (ps.length / 2)) := fun c h1 h2 h3 => by omega
        generalize hm : ps.length = m at *
        have HM := hdN hm
        clear hm
        have hm2 : ((m : Int) / 2) = ((m / 2 : Nat) : Int) := by omega
        generalize hmm : m / 2 = mm at *
        have hmmle : mm ≤ m := by omega
        clear hmm
        go_wp2_with fail
        obtain ⟨W0, hW0⟩ : ∃ W0, W0 = wr := ⟨_, rfl⟩
        subst hW0
        go_loopw [10] (fun v10 W => ∃ (j : Nat) (qs : List Nat), v10 = .int .i64 ((j : Int) - 1) ∧ j ≤ mm ∧ Hid (qs.Perm ps) ∧ Hid (qs.length = m) ∧ Hid (HpF (ltP hd) qs j) ∧ Hid (RowF W g m cs hd qs) ∧ Hid (FrB W w.heap.size g m cap') ∧ Hid (OnlyG g W0 W)) (fun v10 _ => (intOf v10 + 1).toNat)
        case atStart => exact ⟨mm, ps, by first | rfl | go_num, Nat.le_refl _, HP0, HM, HH0, HRw, HE, OnlyG.refl _ _⟩
        case round =>
          clear HRw HE HP0 HM HH0
          obtain ⟨j, qs, rfl, hj, HPq, HM, HHq, HRq, HBq, HOq⟩ := hrel
          by_cases hj0 : 0 < j
          · obtain ⟨i, hi0⟩ : ∃ i, j = i + 1 := ⟨j - 1, by omega⟩
            subst hi0
            have hji : (((i + 1 : Nat) : Int) - 1) = (i : Int) := by omega
            rw [hji]
            have HSk := hdN (sink_any w.heap.size g m cap' cs hd qs i wr (by rw [HM.out]; exact HBq.out) HRq.out hpl (by rw [HM.out]; omega) HHq.out)
            go_wp2_with fail
            refine HSk.out.mono ?_
            rintro e w5 ⟨⟨v5, rfl⟩, qs', hp5, hh5, hr5, ho5⟩
            have HP5 := hdN (hp5.trans HPq.out)
            have HM5 : Hid (qs'.length = m) := by show _ = _; rw [hp5.length_eq]; exact HM.out
            have HB5 := hdN (HBq.out.only hne ho5)
            have HO5 := hdN (HOq.out.trans ho5)
            have HH5 := hdN hh5
            have HR5 := hdN hr5
            clear hp5 hh5 hr5 ho5 HSk HPq HM HBq HOq HHq HRq
            go_wp2_with fail
            exact ⟨⟨i, qs', by first | rfl | go_num, by omega, HP5, HM5, HH5, HR5, HB5, HO5⟩, by simp only [intOf]; omega⟩
          · have hj1 : j = 0 := by omega
            subst hj1
            have HSr := hdN (HPs.out.keep HSB.out (fun i hi => HOq.out.block i (by omega) (by omega)) HOq.out.size)
            have HKr := hdN (HKe.out.then (HOq.out.below (B := w.heap.size) (by omega) (by omega)) (Nat.le_refl _))
            go_wp2_with fail
            go_ret
            exact ⟨qs, rfl, ⟨some ⟨g, 0, none⟩, cap', by rw [HM.out]; exact HBq.out, by rw [HM.out]; exact hcap, .inr ⟨g, m, rfl, by omega, hpl, HRq.out⟩⟩, HPq.out, HHq.out, HSr.out, HKr.out⟩
end Go.Proofs.YtgmfjninimebmaaGreatDoor
namespace Go.Proofs.YtgmfjninimebmaaGreatDoor
open Go.RowKit Go.Maps
set_option linter.unusedVariables false
set_option linter.unusedSimpArgs false

/-- A block of the heap of fronts. -/
def FrT (o : Option Obj) : Prop := ∃ arr t fr, o = some (.cells arr t fr) ∧ (t = 184 ∨ t = 186)
/-- What a step of the merge may change: the sources' places and the heap of fronts. -/
structure ItW (B0 : Nat) (cs : List SD) (w w' : World) : Prop where
  os : w'.os = w.os
  tape : w'.tape = w.tape
  output : w'.output = w.output
  size : w.heap.size ≤ w'.heap.size
  block : ∀ j, j < w.heap.size → (∀ p, p < cs.length → j ≠ (cs.getD p sd0).pa) → (j < B0 ∨ ¬ FrT w.heap[j]?) → w'.heap[j]? = w.heap[j]?
theorem ItW.refl (B0 : Nat) (cs : List SD) (w : World) : ItW B0 cs w w := ⟨rfl, rfl, rfl, Nat.le_refl _, fun _ _ _ _ => rfl⟩
theorem ItW.trans {B0 : Nat} {cs : List SD} {a b c : World} (h : ItW B0 cs a b) (k : ItW B0 cs b c) : ItW B0 cs a c :=
  ⟨k.os.trans h.os, k.tape.trans h.tape, k.output.trans h.output, Nat.le_trans h.size k.size, fun j hj hn hf => by
    have e := h.block j hj hn hf
    exact (k.block j (Nat.lt_of_lt_of_le hj h.size) hn (by rw [e]; exact hf)).trans e⟩
theorem ItW.of {B0 : Nat} {cs : List SD} {w w' : World} (h : OnlyS cs w w') : ItW B0 cs w w' := ⟨h.os, h.tape, h.output, h.size, fun j hj hn _ => h.block j hj hn⟩
theorem ItW.one {B0 : Nat} {cs : List SD} {w w' : World} {g : Nat} (h : OnlyG g w w') (hg : FrT w.heap[g]?) (hB : B0 ≤ g) : ItW B0 cs w w' := ⟨h.os, h.tape, h.output, h.size, fun j hj _ hf => h.block j hj (fun e => by
  subst e
  rcases hf with hf | hf
  · omega
  · exact hf hg)⟩
theorem RowF.frT {w : World} {g n : Nat} {cs : List SD} {hd : Nat → En} {ps : List Nat} (h : RowF w g n cs hd ps) : FrT w.heap[g]? := by
  obtain ⟨arr, h1, -⟩ := h
  exact ⟨arr, _, _, h1, .inr rfl⟩
theorem RowF.cong {w : World} {g n : Nat} {cs : List SD} {hd hd' : Nat → En} {ps : List Nat} (h : RowF w g n cs hd ps) (he : ∀ i, i < ps.length → hd (ps.getD i 0) = hd' (ps.getD i 0)) : RowF w g n cs hd' ps := by
  obtain ⟨arr, h1, h2, h3, h4⟩ := h
  exact ⟨arr, h1, h2, h3, fun i hi => by rw [← he i hi]; exact h4 i hi⟩
theorem RowF.take {w : World} {g n : Nat} {cs : List SD} {hd : Nat → En} {ps : List Nat} (h : RowF w g n cs hd ps) (m : Nat) : RowF w g n cs hd (ps.take m) := by
  obtain ⟨arr, h1, h2, h3, h4⟩ := h
  refine ⟨arr, h1, h2, by rw [List.length_take]; omega, fun i hi => ?_⟩
  rw [List.length_take] at hi
  have e : (ps.take m).getD i 0 = ps.getD i 0 := by rw [List.getD_eq_getElem?_getD, List.getElem?_take_of_lt (by omega), ← List.getD_eq_getElem?_getD]
  rw [e]
  exact h4 i (by omega)
def put4 (w : World) (g : Nat) (x : En) : World := (((w.setCell ⟨g, 0, none⟩ (.string x.ky)).setCell ⟨g, 1, none⟩ (.int .i64 x.sq)).setCell ⟨g, 2, none⟩ (.int .i64 x.kd)).setCell ⟨g, 3, none⟩ (.string x.vl)
theorem put4_only (w : World) (g : Nat) (x : En) : OnlyG g w (put4 w g x) := (((OnlyG.set _ _ _).trans (OnlyG.set _ _ _)).trans (OnlyG.set _ _ _)).trans (OnlyG.set _ _ _)
theorem RowF.head {w : World} {g n : Nat} {cs : List SD} {hd hd' : Nat → En} {ps : List Nat} (h : RowF w g n cs hd ps) (h0 : 0 < ps.length) (he : ∀ i, 0 < i → i < ps.length → hd (ps.getD i 0) = hd' (ps.getD i 0)) : RowF (put4 w g (hd' (ps.getD 0 0))) g n cs hd' ps := by
  obtain ⟨arr, h1, h2, h3, h4⟩ := h
  have e1 := heap_setCell_same w g 0 _ _ (.string (hd' (ps.getD 0 0)).ky) h1
  have e2 := heap_setCell_same _ g 1 _ _ (.int .i64 (hd' (ps.getD 0 0)).sq) e1
  have e3 := heap_setCell_same _ g 2 _ _ (.int .i64 (hd' (ps.getD 0 0)).kd) e2
  have e4 := heap_setCell_same _ g 3 _ _ (.string (hd' (ps.getD 0 0)).vl) e3
  refine ⟨_, e4, by simpa using h2, h3, fun i hi => ?_⟩
  have hs : 6 ≤ arr.size := by omega
  by_cases hi0 : i = 0
  · subst hi0
    obtain ⟨a0, a1, a2, a3, a4, a5⟩ := h4 0 hi
    refine ⟨?_, ?_, ?_, ?_, ?_, ?_⟩
    · simp [Array.getElem?_setIfInBounds]; intro h; rw [h] at hs; simp at hs
    · simp [Array.getElem?_setIfInBounds]; omega
    · simp [Array.getElem?_setIfInBounds]; omega
    · simp [Array.getElem?_setIfInBounds]; omega
    · rw [Array.getElem?_setIfInBounds_ne (by omega), Array.getElem?_setIfInBounds_ne (by omega), Array.getElem?_setIfInBounds_ne (by omega), Array.getElem?_setIfInBounds_ne (by omega)]; exact a4
    · rw [Array.getElem?_setIfInBounds_ne (by omega), Array.getElem?_setIfInBounds_ne (by omega), Array.getElem?_setIfInBounds_ne (by omega), Array.getElem?_setIfInBounds_ne (by omega)]; exact a5
  · rw [← he i (by omega) hi]
    obtain ⟨a0, a1, a2, a3, a4, a5⟩ := h4 i hi
    have key : ∀ o v, 6 ≤ o → arr[o]? = some v → ((((arr.setIfInBounds 0 (.string (hd' (ps.getD 0 0)).ky)).setIfInBounds 1 (.int .i64 (hd' (ps.getD 0 0)).sq)).setIfInBounds 2 (.int .i64 (hd' (ps.getD 0 0)).kd)).setIfInBounds 3 (.string (hd' (ps.getD 0 0)).vl))[o]? = some v := fun o v ho hv => by
      rw [Array.getElem?_setIfInBounds_ne (by omega), Array.getElem?_setIfInBounds_ne (by omega), Array.getElem?_setIfInBounds_ne (by omega), Array.getElem?_setIfInBounds_ne (by omega)]; exact hv
    exact ⟨key _ _ (by omega) a0, key _ _ (by omega) a1, key _ _ (by omega) a2, key _ _ (by omega) a3, key _ _ (by omega) a4, key _ _ (by omega) a5⟩
/-- How many entries a source has given, by what is left of it. -/
def posR (cs : List SD) (rem : List (List En)) (p : Nat) : Nat := (cs.getD p sd0).xs.length - ((rem.getD p []).length - 1)
/-- The whole of a merge under way. -/
structure Mg (w : World) (hb B0 : Nat) (cs : List SD) (rem : List (List En)) (ps : List Nat) : Prop where
  mp : MgP rem ps
  hp : HpF (ltP (hdRE rem)) ps 0
  fr : FrO w hb (hb + 1) cs (hdRE rem) ps
  src : SrcAll w cs (posR cs rem)
  len : cs.length = rem.length
  sfx : ∀ p, p < cs.length → ∃ t, (cs.getD p sd0).xs = t ++ rem.getD p []
  dis : PaD cs
  low : ∀ p, p < cs.length → SrcB B0 (cs.getD p sd0)
  lh : B0 ≤ hb
theorem posR_set {cs : List SD} {rem : List (List En)} {p : Nat} (x : List En) (hp : p < rem.length) (q : Nat) : posR cs (rem.set p x) q = if q = p then (cs.getD p sd0).xs.length - (x.length - 1) else posR cs rem q := by
  unfold posR
  rw [getD_setL rem p q x hp]
  by_cases h : q = p
  · rw [if_pos h, if_pos h, h]
  · rw [if_neg h, if_neg h]
theorem Mg.step {w w' : World} {hb B0 : Nat} {cs : List SD} {rem : List (List En)} {ps qs : List Nat} (h : Mg w hb B0 cs rem ps) {x : List En} {p : Nat} (hp : p < rem.length) (hx : x = (rem.getD p []).tail)
    (mp : MgP (rem.set p x) qs) (hH : HpF (ltP (hdRE (rem.set p x))) qs 0) (fr : FrO w' hb (hb + 1) cs (hdRE (rem.set p x)) qs) (src : SrcAll w' cs (posR cs (rem.set p x))) : Mg w' hb B0 cs (rem.set p x) qs := by
  refine ⟨mp, hH, fr, src, by rw [List.length_set]; exact h.len, fun q hq => ?_, h.dis, h.low, h.lh⟩
  rw [getD_setL rem p q x hp]
  by_cases hqp : q = p
  · rw [if_pos hqp, hqp]
    obtain ⟨t, ht⟩ := h.sfx p (by rw [h.len]; exact hp)
    rw [ht, hx]
    cases rem.getD p [] with
    | nil => exact ⟨t, by simp⟩
    | cons y r => exact ⟨t ++ [y], by simp⟩
  · rw [if_neg hqp]; exact h.sfx q hq
end Go.Proofs.YtgmfjninimebmaaGreatDoor
namespace Go.Proofs.YtgmfjninimebmaaGreatDoor
open Go.RowKit Go.Maps
set_option linter.unusedVariables false
set_option linter.unusedSimpArgs false

theorem adv_get {xs r : List En} {p : Nat} (t : List En) (hx : xs = t ++ r) (ht : r.tail ≠ []) : xs.length - (r.length - 1) < xs.length ∧ xs.getD (xs.length - (r.length - 1)) en0 = r.tail.headD en0 ∧ xs.length - (r.tail.length - 1) = xs.length - (r.length - 1) + 1 := by
  match r, ht with
  | e :: y :: r', _ =>
    subst hx
    have hl : (t ++ e :: y :: r').length = t.length + r'.length + 2 := by simp; omega
    have h1 : (t ++ e :: y :: r').length - ((e :: y :: r').length - 1) = t.length + 1 := by rw [hl]; simp; omega
    refine ⟨by rw [h1, hl]; omega, ?_, ?_⟩
    · rw [h1, List.getD_eq_getElem?_getD, List.getElem?_append_right (by omega)]
      have : t.length + 1 - t.length = 1 := by omega
      rw [this]; rfl
    · rw [h1, hl]; simp; omega
theorem adv_none {xs r : List En} (ht : r.tail = []) : xs.length - (r.length - 1) = xs.length := by
  match r, ht with
  | [], _ => simp
  | [e], _ => simp
  | e :: y :: r', ht => simp at ht
set_option maxRecDepth 100000 in
set_option maxHeartbeats 8000000 in
theorem advance_some (w : World) (hb B0 : Nat) (cs : List SD) (rem : List (List En)) (ps : List Nat) (h : Mg w hb B0 cs rem ps) (hne : ps ≠ []) (ht : (rem.getD (ps.getD 0 0) []).tail ≠ []) :
    Calls Tryz.prog 133 #[.pointer (some ⟨hb, 0, none⟩)] w fun e w' => (∃ v, e = .returned v) ∧ (∃ qs, Mg w' hb B0 cs (rem.set (ps.getD 0 0) (rem.getD (ps.getD 0 0) []).tail) qs) ∧ ItW B0 cs w w' := by
  obtain ⟨hp, hpn⟩ := (h.mp.mem _).1 (get0_mem hne)
  obtain ⟨m1, m2⟩ := mg_some h.mp h.hp hne ht
  obtain ⟨a, cap, hB, hcap, hr⟩ := h.fr
  rcases hr with hr | ⟨g, n, rfl, hg, hn, hR⟩
  · exact absurd hr hne
  have h0 : 0 < ps.length := List.length_pos_iff.2 hne
  obtain ⟨-, -, -, -, -, x5⟩ := hR.cells h0
  have hpc : ps.getD 0 0 < cs.length := by rw [h.len]; exact hp
  obtain ⟨t, htt⟩ := h.sfx _ hpc
  obtain ⟨q1, q2, q3⟩ := adv_get (p := 0) t htt ht
  have hsr := h.src _ hpc
  have HNX := hdN (next_some (cs.getD (ps.getD 0 0) sd0) _ w hsr q1)
  have hlow := h.low _ hpc
  have hpa := hlow.1
  have hlh := h.lh
  have HHD : Hid ((cs.getD (ps.getD 0 0) sd0).xs.getD (posR cs rem (ps.getD 0 0)) en0 = hdRE (rem.set (ps.getD 0 0) (rem.getD (ps.getD 0 0) []).tail) (ps.getD 0 0)) := by
    show _ = _
    unfold posR hdRE
    rw [getD_setL _ _ _ _ hp, if_pos rfl]
    exact q2
  rw [HHD.out] at HNX
  have HSrc : Hid (∀ (w1 : World), SrcAt w1 (cs.getD (ps.getD 0 0) sd0) (posR cs rem (ps.getD 0 0) + 1) → OnlyG (cs.getD (ps.getD 0 0) sd0).pa w w1 → SrcAll w1 cs (posR cs (rem.set (ps.getD 0 0) (rem.getD (ps.getD 0 0) []).tail))) := fun w1 h1 h2 => by
    refine (h.src.ask h.dis hpc h2 h1).cong (fun q hq => ?_)
    rw [posR_set _ hp]
    by_cases e : q = ps.getD 0 0
    · rw [if_pos e, if_pos e]; exact q3.symm
    · rw [if_neg e, if_neg e]
  have HRow : Hid (∀ w2 : World, RowF w2 g n cs (hdRE rem) ps → RowF (put4 w2 g (hdRE (rem.set (ps.getD 0 0) (rem.getD (ps.getD 0 0) []).tail) (ps.getD 0 0))) g n cs (hdRE (rem.set (ps.getD 0 0) (rem.getD (ps.getD 0 0) []).tail)) ps) := fun w2 h2 => h2.head h0 (fun i h1 h2 => (hdR_set _ hp (nd_get h.mp.nd h1 h2)).symm)
  have HStep : Hid (∀ (w' : World) (qs : List Nat), MgP (rem.set (ps.getD 0 0) (rem.getD (ps.getD 0 0) []).tail) qs → HpF (ltP (hdRE (rem.set (ps.getD 0 0) (rem.getD (ps.getD 0 0) []).tail))) qs 0 → FrO w' hb (hb + 1) cs (hdRE (rem.set (ps.getD 0 0) (rem.getD (ps.getD 0 0) []).tail)) qs → SrcAll w' cs (posR cs (rem.set (ps.getD 0 0) (rem.getD (ps.getD 0 0) []).tail)) → Mg w' hb B0 cs (rem.set (ps.getD 0 0) (rem.getD (ps.getD 0 0) []).tail) qs) := fun w' qs k1 k2 k3 k4 => h.step hp rfl k1 k2 k3 k4
  have HM1 := hdN m1
  have HM2 := hdN m2
  have HLow := hdN h.low
  have HPc := hdN hpc
  generalize rem.set (ps.getD 0 0) (rem.getD (ps.getD 0 0) []).tail = rem' at *
  generalize posR cs rem (ps.getD 0 0) = i at *
  generalize hdRE rem' (ps.getD 0 0) = x at *
  clear HHD q1 q2 q3 htt hsr h m1 m2 ht hpn hp
  have HB := hdN hB
  have HR := hdN hR
  obtain ⟨y0, y1⟩ := twoN hB
  have hbl := heap_lt hB
  have hgl := hR.lt
  have hmn : ps.length ≤ n := by obtain ⟨arr, -, -, h, -⟩ := hR; exact h
  have h0' : (0 : Int) < (ps.length : Int) := by omega
  have hbg : ¬ hb = g := by omega
  have hgb : ¬ g = hb := by omega
  have HSk := hdN (fun (w5 : World) (h1 : FrB w5 hb g ps.length cap) (h2 : RowF w5 g n cs (hdRE rem') ps) => sink_any hb g n cap cs (hdRE rem') ps 0 w5 h1 h2 hn (Nat.zero_le _) HM2.out)
  generalize hcc : cs.getD (ps.getD 0 0) sd0 = c at *
  have HCC := hdN hcc
  clear hB hR hcc
  simp only [Nat.zero_mul, Nat.zero_add] at x5
  generalize hm : ps.length = m at *
  have HM := hdN hm
  clear hm
  go_enter Tryz.func133, Tryz.ntmps133
  go_wp2_with fail
  refine HNX.out.mono ?_
  rintro e w1 ⟨rfl, hs1, ho1⟩
  have HS1 := hdN (HSrc.out w1 hs1 ho1)
  have HO1 := hdN ho1
  have HB1 : Hid (FrB w1 hb g m cap) := (ho1.block _ hbl (by omega)).trans HB.out
  have HR1 := hdN (HR.out.block (ho1.block g hgl (by omega)))
  clear hs1 ho1 HNX HSrc HB HR y0 y1 x5 hbl hgl
  go_upto_region 2 with fail
  generalize hw2 : w1.alloc (.cells #[.string x.ky, .int .i64 x.sq, .int .i64 x.kd, .string x.vl] 50) = w2 at *
  have hb2 : Below w1.heap.size w1 w2 := by rw [← hw2]; exact (Below.refl _ _).alloc (Nat.le_refl _) _
  have hvb : w2.heap[w1.heap.size]? = some (.cells #[.string x.ky, .int .i64 x.sq, .int .i64 x.kd, .string x.vl] 50 (0, 0)) := by rw [← hw2]; exact World.heap_alloc_new _ _
  obtain ⟨x0, x1, x2, x3⟩ := fourB hvb
  have hvl := heap_lt hvb
  have HB2 := hdN (HB1.out.below hb2)
  have HR2 := hdN (HR1.out.block (hb2.block g HR1.out.lt))
  have HS2 := hdN (HS1.out.below hb2)
  have HI2 : Hid (ItW B0 cs w w2) := (ItW.of (OnlyS.one HPc.out (by rw [HCC.out]; exact HO1.out))).trans (ItW.of (OnlyS.of hb2))
  obtain ⟨y0, y1⟩ := twoN HB2.out
  have hbl := heap_lt HB2.out
  have hgl := HR2.out.lt
  have hvg : ¬ w1.heap.size = g := by have := HR1.out.lt; omega
  obtain ⟨z0, z1, z2, z3, z4, z5⟩ := HR2.out.cells (i := 0) (by rw [HM.out]; omega)
  simp only [Nat.zero_mul, Nat.zero_add] at z0 z1 z2 z3 z4 z5
  have fz : ∀ o, w2.frozen? ⟨g, o, none⟩ = false := fun o => by
    obtain ⟨arr, q1, -⟩ := HR2.out
    simp [World.frozen?, q1]
  generalize hvn : w1.heap.size = vb at *
  clear hw2 hb2 hvb hvn HB1 HR1 HS1 HO1
  go_region
  have HO3 : Hid (OnlyG g w2 (put4 w2 g x).drew) := (put4_only _ _ _).trans (OnlyG.of ((Below.refl _ _).drew))
  have HR3 : Hid (RowF (put4 w2 g x).drew g n cs (hdRE rem') ps) := (HRow.out w2 HR2.out).block (drew_heap _ _)
  have HB3 : Hid (FrB (put4 w2 g x).drew hb g m cap) := HB2.out.only hbg HO3.out
  have HS3 : Hid (SrcAll (put4 w2 g x).drew cs (posR cs rem')) := HS2.out.keep HLow.out (fun j hj => HO3.out.block j (by omega) (by omega)) HO3.out.size
  have HI3 : Hid (ItW B0 cs w (put4 w2 g x).drew) := HI2.out.trans (ItW.one HO3.out HR2.out.frT (by omega))
  clear HO3 HR2 HB2 HS2 HI2 HRow x0 x1 x2 x3 y0 y1 z0 z1 z2 z3 z4 z5 fz hbl hgl hvl
  unfold put4 at HR3 HB3 HS3 HI3
  generalize hW3 : ((((w2.setCell ⟨g, 0, none⟩ (.string x.ky)).setCell ⟨g, 1, none⟩ (.int .i64 x.sq)).setCell ⟨g, 2, none⟩ (.int .i64 x.kd)).setCell ⟨g, 3, none⟩ (.string x.vl)).drew = W3 at *
  clear hW3
  go_wp2_with fail
  refine (HSk.out W3 HB3.out HR3.out).mono ?_
  rintro e w5 ⟨⟨v5, rfl⟩, qs, hp5, hh5, hr5, ho5⟩
  have HX : Hid ((∃ qs, Mg w5 hb B0 cs rem' qs) ∧ ItW B0 cs w w5) := ⟨⟨qs, HStep.out w5 qs (mg_perm HM1.out hp5) hh5 ⟨some ⟨g, 0, none⟩, cap, by rw [hp5.length_eq, HM.out]; exact HB3.out.only hbg ho5, by rw [hp5.length_eq, HM.out]; exact hcap, .inr ⟨g, n, rfl, hg, hn, hr5⟩⟩ (HS3.out.keep HLow.out (fun j hj => ho5.block j (by have := heap_lt HB3.out; omega) (by omega)) ho5.size)⟩, HI3.out.trans (ItW.one ho5 HR3.out.frT (by omega))⟩
  clear hp5 hh5 hr5 ho5
  go_wp2_with fail
  go_end0
  exact ⟨⟨_, rfl⟩, HX.out.1, HX.out.2⟩
set_option maxRecDepth 100000 in
set_option maxHeartbeats 8000000 in
theorem advance_none (w : World) (hb B0 : Nat) (cs : List SD) (rem : List (List En)) (ps : List Nat) (h : Mg w hb B0 cs rem ps) (hne : ps ≠ []) (ht : (rem.getD (ps.getD 0 0) []).tail = []) :
    Calls Tryz.prog 133 #[.pointer (some ⟨hb, 0, none⟩)] w fun e w' => (∃ v, e = .returned v) ∧ (∃ qs, Mg w' hb B0 cs (rem.set (ps.getD 0 0) (rem.getD (ps.getD 0 0) []).tail) qs) ∧ ItW B0 cs w w' := by
  obtain ⟨hp, hpn⟩ := (h.mp.mem _).1 (get0_mem hne)
  obtain ⟨m1, m2⟩ := mg_none h.mp h.hp hne ht
  obtain ⟨a, cap, hB, hcap, hr⟩ := h.fr
  rcases hr with hr | ⟨g, n, rfl, hg, hn, hR⟩
  · exact absurd hr hne
  have h0 : 0 < ps.length := List.length_pos_iff.2 hne
  obtain ⟨-, -, -, -, -, x5⟩ := hR.cells h0
  have hpc : ps.getD 0 0 < cs.length := by rw [h.len]; exact hp
  have hsr := h.src _ hpc
  have e1 : posR cs rem (ps.getD 0 0) = (cs.getD (ps.getD 0 0) sd0).xs.length := adv_none ht
  rw [e1] at hsr
  have HNX := hdN (next_none (cs.getD (ps.getD 0 0) sd0) w hsr)
  have hlh := h.lh
  have HSrc : Hid (∀ w1 : World, SrcAll w1 cs (posR cs rem) → SrcAll w1 cs (posR cs (rem.set (ps.getD 0 0) (rem.getD (ps.getD 0 0) []).tail))) := fun w1 h1 => h1.cong (fun q hq => by
    rw [posR_set _ hp]
    by_cases e : q = ps.getD 0 0
    · rw [if_pos e, e, e1, ht]; simp
    · rw [if_neg e])
  have HRow : Hid (∀ w2 : World, RowF w2 g n cs (hdRE rem) ps → RowF (putF w2 g 0 (hdRE rem (ps.getD (ps.length - 1) 0)) (ps.getD (ps.length - 1) 0) (cs.getD (ps.getD (ps.length - 1) 0) sd0)) g n cs (hdRE (rem.set (ps.getD 0 0) (rem.getD (ps.getD 0 0) []).tail)) (dropP ps)) := fun w2 h2 => by
    refine RowF.cong ((h2.put h0 (ps.getD (ps.length - 1) 0)).take (ps.length - 1)) (fun i hi => ?_)
    have hi' : i < (dropP ps).length := hi
    refine (hdR_set _ hp ?_).symm
    have hm : (dropP ps).getD i 0 ∈ dropP ps := by
      have e : (dropP ps).getD i 0 = (dropP ps)[i] := by simp [List.getD, hi']
      rw [e]; exact List.getElem_mem hi'
    have := (m1.mem _).1 hm
    intro e
    have e' : (dropP ps).getD i 0 = ps.getD 0 0 := e
    rw [e', getD_setL _ _ _ _ hp, if_pos rfl] at this
    exact this.2 ht
  have HStep : Hid (∀ (w' : World) (qs : List Nat), MgP (rem.set (ps.getD 0 0) (rem.getD (ps.getD 0 0) []).tail) qs → HpF (ltP (hdRE (rem.set (ps.getD 0 0) (rem.getD (ps.getD 0 0) []).tail))) qs 0 → FrO w' hb (hb + 1) cs (hdRE (rem.set (ps.getD 0 0) (rem.getD (ps.getD 0 0) []).tail)) qs → SrcAll w' cs (posR cs (rem.set (ps.getD 0 0) (rem.getD (ps.getD 0 0) []).tail)) → Mg w' hb B0 cs (rem.set (ps.getD 0 0) (rem.getD (ps.getD 0 0) []).tail) qs) := fun w' qs k1 k2 k3 k4 => h.step hp rfl k1 k2 k3 k4
  have HM1 := hdN m1
  have HM2 := hdN m2
  have HLow := hdN h.low
  have HSr0 := hdN h.src
  generalize rem.set (ps.getD 0 0) (rem.getD (ps.getD 0 0) []).tail = rem' at *
  clear h m1 m2 ht hpn hp hsr e1
  have HB := hdN hB
  have HR := hdN hR
  obtain ⟨y0, y1⟩ := twoN hB
  have hbl := heap_lt hB
  have hgl := hR.lt
  have hmn : ps.length ≤ n := by obtain ⟨arr, -, -, h, -⟩ := hR; exact h
  have h0' : (0 : Int) < (ps.length : Int) := by omega
  have hbg : ¬ hb = g := by omega
  have hgb : ¬ g = hb := by omega
  obtain ⟨l, hl⟩ : ∃ l, ps.length = l + 1 := ⟨ps.length - 1, by omega⟩
  have HML : Hid ((dropP ps).length = l) := by show _ = _; rw [dropP_length]; omega
  have HSk := hdN (fun (w5 : World) (h1 : FrB w5 hb g l cap) (h2 : RowF w5 g n cs (hdRE rem') (dropP ps)) => sink_any hb g n cap cs (hdRE rem') (dropP ps) 0 w5 (by rw [HML.out]; exact h1) h2 hn (Nat.zero_le _) HM2.out)
  have HLc := hdN (fun (w2 : World) (h2 : RowF w2 g n cs (hdRE rem) ps) => h2.cells (i := l) (by omega))
  have e2 : ps.length - 1 = l := by omega
  rw [e2] at HRow
  generalize cs.getD (ps.getD 0 0) sd0 = c at *
  generalize hq : ps.getD l 0 = q at *
  generalize hx : hdRE rem q = x at *
  generalize hc2 : cs.getD q sd0 = c2 at *
  clear hq hx hc2
  have hln : l ≤ 1048576 := by omega
  have hll : (l : Int) < ((l + 1 : Nat) : Int) := by omega
  have hlc : l ≤ cap := by omega
  have hlc' : (l : Int) ≤ (cap : Int) := by omega
  clear hcap
  have hl1 : ((l + 1 : Nat) : Int) - 1 = (l : Int) := by omega
  have HPL := hdN hl
  rw [hl] at hB y0
  have HB' : Hid (FrB w hb g (l + 1) cap) := hB
  clear hB hR HB hl e2 h0' hmn h0
  simp only [Nat.zero_mul, Nat.zero_add] at x5
  generalize hm : l + 1 = m at *
  have hml : l < m := by omega
  have hmi : (l : Int) < (m : Int) := by omega
  have hm0 : (0 : Int) < (m : Int) := by omega
  have HMx := hdN hm
  clear hm
  go_enter Tryz.func133, Tryz.ntmps133
  go_wp2_with fail
  refine HNX.out.mono ?_
  rintro e w1 ⟨rfl, hb1⟩
  have HS1 := hdN (HSrc.out w1 (HSr0.out.below hb1))
  have HB1 := hdN (HB'.out.below hb1)
  have HR1 := hdN (HR.out.block (hb1.block g hgl))
  have HI1 : Hid (ItW B0 cs w w1) := ItW.of (OnlyS.of hb1)
  clear hb1 HNX HSrc HB' HR y0 y1 x5 hbl hgl HSr0
  obtain ⟨y0, y1⟩ := twoN HB1.out
  have hbl := heap_lt HB1.out
  go_upto_region 4 with fail
  generalize hw2 : w1.alloc _ = w2 at *
  have hb2 : Below w1.heap.size w1 w2 := by rw [← hw2]; exact (Below.refl _ _).alloc (Nat.le_refl _) _
  clear hw2 y0 y1 hbl
  have HB2 := hdN (HB1.out.below hb2)
  have HR2 := hdN (HR1.out.block (hb2.block g HR1.out.lt))
  have HS2 := hdN (HS1.out.below hb2)
  have HI2 : Hid (ItW B0 cs w w2) := HI1.out.trans (ItW.of (OnlyS.of hb2))
  clear hb2 HB1 HR1 HS1 HI1
  obtain ⟨y0, y1⟩ := twoN HB2.out
  have hbl := heap_lt HB2.out
  have hgl := HR2.out.lt
  obtain ⟨z0, z1, z2, z3, z4, z5⟩ := HLc.out w2 HR2.out
  obtain ⟨t0, t1, t2, t3, t4, t5⟩ := HR2.out.cells (i := 0) (by have := HPL.out; omega)
  simp only [Nat.zero_mul, Nat.zero_add] at t0 t1 t2 t3 t4 t5
  have fz : ∀ o, w2.frozen? ⟨g, o, none⟩ = false := fun o => by
    obtain ⟨arr, q1, -⟩ := HR2.out
    simp [World.frozen?, q1]
  have HO3 : Hid (OnlyG g w2 (putF w2 g 0 x q c2).drew) := (putF_only _ _ _ _ _ _).trans (OnlyG.of ((Below.refl _ _).drew))
  have HR3 : Hid (RowF (putF w2 g 0 x q c2).drew g n cs (hdRE rem') (dropP ps)) := (HRow.out w2 HR2.out).block (drew_heap _ _)
  have HB3 : Hid (FrB (putF w2 g 0 x q c2).drew hb g m cap) := HB2.out.only hbg HO3.out
  have HS3 : Hid (SrcAll (putF w2 g 0 x q c2).drew cs (posR cs rem')) := HS2.out.keep HLow.out (fun j hj => HO3.out.block j (by omega) (by omega)) HO3.out.size
  have HI3 : Hid (ItW B0 cs w (putF w2 g 0 x q c2).drew) := HI2.out.trans (ItW.one HO3.out HR2.out.frT (by omega))
  unfold putF at HR3 HB3 HS3 HI3
  simp only [Nat.zero_mul, Nat.zero_add] at HR3 HB3 HS3 HI3
  clear HO3 HR2 HB2 HS2 HI2 HRow HLc
  go_region
  clear z0 z1 z2 z3 z4 z5 t0 t1 t2 t3 t4 t5 y0 y1 fz hbl hgl
  generalize hW3 : ((((((w2.setCell ⟨g, 0, none⟩ (.string x.ky)).setCell ⟨g, 1, none⟩ (.int .i64 x.sq)).setCell ⟨g, 2, none⟩ (.int .i64 x.kd)).setCell ⟨g, 3, none⟩ (.string x.vl)).setCell ⟨g, 4, none⟩ (.int .i64 (q : Int))).setCell ⟨g, 5, none⟩ c2.fn).drew = W3 at *
  clear hW3
  obtain ⟨y0, y1⟩ := twoN HB3.out
  have yf := twoFz HB3.out
  have hbl := heap_lt HB3.out
  have HO4 : Hid (OnlyG hb W3 (W3.setCell ⟨hb, 0, none⟩ (.slice (some ⟨g, 0, none⟩) l cap))) := OnlyG.set _ _ _
  have HB4 : Hid (FrB (W3.setCell ⟨hb, 0, none⟩ (.slice (some ⟨g, 0, none⟩) l cap)) hb g l cap) := by
    have h1 := heap_setCell_same W3 hb 0 _ _ (.slice (some ⟨g, 0, none⟩) l cap) HB3.out
    show FrB _ _ _ _ _
    simpa [FrB] using h1
  have HR4 : Hid (RowF (W3.setCell ⟨hb, 0, none⟩ (.slice (some ⟨g, 0, none⟩) l cap)) g n cs (hdRE rem') (dropP ps)) := HR3.out.block (HO4.out.block g HR3.out.lt hgb)
  have HS4 : Hid (SrcAll (W3.setCell ⟨hb, 0, none⟩ (.slice (some ⟨g, 0, none⟩) l cap)) cs (posR cs rem')) := HS3.out.keep HLow.out (fun j hj => HO4.out.block j (by omega) (by omega)) HO4.out.size
  have HI4 : Hid (ItW B0 cs w (W3.setCell ⟨hb, 0, none⟩ (.slice (some ⟨g, 0, none⟩) l cap))) := HI3.out.trans (ItW.one HO4.out ⟨_, _, _, HB3.out, .inl rfl⟩ hlh)
  clear HO4 HB3 HR3 HS3 HI3
  go_wp2_with fail
  refine (HSk.out _ HB4.out HR4.out).mono ?_
  rintro e w5 ⟨⟨v5, rfl⟩, qs, hp5, hh5, hr5, ho5⟩
  have HX : Hid ((∃ qs, Mg w5 hb B0 cs rem' qs) ∧ ItW B0 cs w w5) := ⟨⟨qs, HStep.out w5 qs (mg_perm HM1.out hp5) hh5 ⟨some ⟨g, 0, none⟩, cap, by rw [hp5.length_eq, HML.out]; exact HB4.out.only hbg ho5, by rw [hp5.length_eq, HML.out]; exact hlc, .inr ⟨g, n, rfl, hg, hn, hr5⟩⟩ (HS4.out.keep HLow.out (fun j hj => ho5.block j (by have := heap_lt HB4.out; omega) (by omega)) ho5.size)⟩, HI4.out.trans (ItW.one ho5 HR4.out.frT (by omega))⟩
  clear hp5 hh5 hr5 ho5
  go_wp2_with fail
  go_end0
  exact ⟨⟨_, rfl⟩, HX.out.1, HX.out.2⟩
theorem advance_any (w : World) (hb B0 : Nat) (cs : List SD) (rem : List (List En)) (ps : List Nat) (h : Mg w hb B0 cs rem ps) (hne : ps ≠ []) :
    Calls Tryz.prog 133 #[.pointer (some ⟨hb, 0, none⟩)] w fun e w' => (∃ v, e = .returned v) ∧ (∃ qs, Mg w' hb B0 cs (rem.set (ps.getD 0 0) (rem.getD (ps.getD 0 0) []).tail) qs) ∧ ItW B0 cs w w' := by
  by_cases ht : (rem.getD (ps.getD 0 0) []).tail = []
  · exact advance_none w hb B0 cs rem ps h hne ht
  · exact advance_some w hb B0 cs rem ps h hne ht
end Go.Proofs.YtgmfjninimebmaaGreatDoor
