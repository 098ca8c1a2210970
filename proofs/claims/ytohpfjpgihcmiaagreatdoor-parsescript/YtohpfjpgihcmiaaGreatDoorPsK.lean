import Derived.Test.YtohpfjpgihcmiaaGreatDoorPsJ

namespace Go.Proofs.YtohpfjpgihcmiaaGreatDoor
open Go.RowKit Go.Maps
set_option linter.unusedVariables false
set_option linter.unusedSimpArgs false

def opA (o : OpV) (ba bk : Value) : Value := .agg #[.int .i64 o.kd, .string o.ky, .string o.vl, .int .i64 o.n, ba, bk]
theorem set6 {w : World} {q : Nat} {t : TypeId} {y0 y1 y2 y3 y4 y5 x0 x1 x2 x3 x4 x5 : Value} (h : w.heap[q]? = some (.cells #[y0, y1, y2, y3, y4, y5] t (0, 0))) : ((((((w.setCell ⟨q, 0, none⟩ x0).setCell ⟨q, 1, none⟩ x1).setCell ⟨q, 2, none⟩ x2).setCell ⟨q, 3, none⟩ x3).setCell ⟨q, 4, none⟩ x4).setCell ⟨q, 5, none⟩ x5).heap[q]? = some (.cells #[x0, x1, x2, x3, x4, x5] t (0, 0)) := by
  rw [heap_setCell_same _ _ _ _ _ _ (heap_setCell_same _ _ _ _ _ _ (heap_setCell_same _ _ _ _ _ _ (heap_setCell_same _ _ _ _ _ _ (heap_setCell_same _ _ _ _ _ _ (heap_setCell_same _ _ _ _ _ _ h)))))]
  rfl
theorem kR_lt {x : ByteArray} (h : kI x < 17) : kR x = (kI x : Int) := if_pos h
theorem kR_no {x : ByteArray} (h : ¬ kI x < 17) : kR x = -1 := if_neg h
theorem cut_sizes (b : UInt8) (s : ByteArray) (hs : s.size ≤ 1048576) : ∀ x ∈ cutB b s, x.size ≤ 1048576 := fun x hx => Nat.le_trans (cut_size b s x hx) hs
theorem rowLenD {W : World} {B B' n k : Nat} {e : TypeId} {size : Nat} {v : Value} {xs : List Value} (hk : n = k) (hB : B ≤ B') (h : W.ownsRow B' e size v k xs) : W.ownsRow B e size v n xs := by
  subst hk
  refine ⟨h.1, ?_⟩
  rcases h.2 with hn | ⟨g, cap, cur, hv, hb, rest⟩
  · exact .inl hn
  · exact .inr ⟨g, cap, cur, hv, Nat.le_trans hB hb, rest⟩
theorem RowsO.down {w : World} {B B' : Nat} {ba bk : Value} {o : OpV} (h : RowsO w B ba bk o) (hB : B' ≤ B) : RowsO w B' ba bk o := ⟨rowLenD rfl hB h.1, rowLenD rfl hB h.2⟩
theorem RowsO.below {w w' : World} {B : Nat} {ba bk : Value} {o : OpV} (h : RowsO w B ba bk o) (hb : Below w.heap.size w w') : RowsO w' B ba bk o := ⟨owns_below h.1 hb, owns_below h.2 hb⟩
theorem RowsO.set {w : World} {B q n : Nat} {v : Value} {ba bk : Value} {o : OpV} (h : RowsO w B ba bk o) (hq : q < B) : RowsO (w.setCell ⟨q, n, none⟩ v) B ba bk o := ⟨owns_set h.1 hq, owns_set h.2 hq⟩
set_option maxRecDepth 100000 in
set_option maxHeartbeats 4000000 in
theorem readLine_any (s : ByteArray) (g : Nat) (w : World) (hs : s.size ≤ 1048576) (hv : VarsP w) (hk : KsL w g) :
    Calls Tryz.prog 16 #[.slice (some ⟨g, 0, none⟩) 17 17, .string s] w fun e w' => ∃ (o : OpV) (ba bk : Value), e = .returned (.tuple #[opA o ba bk, .bool (opM s).isSome]) ∧ (∀ v, opM s = some v → o = v ∧ RowsO w' w.heap.size ba bk o) ∧ Below w.heap.size w w' ∧ (∃ a n c, ba = .slice a n c) ∧ (∃ a n c, bk = .slice a n c) := by
  have HC := hdN (fun (w' : World) (hb : Below w.heap.size w w') => cutLine_any s w' hs (hv.below hb))
  have HZ := hdN (cut_sizes 32 s hs)
  have HL : Hid ((cutB 32 s).length ≤ 1048577) := by have := cutB_len 32 s; show _ ≤ _; omega
  have HM : Hid (opM s = if kI (hd0 (cutB 32 s)) < 17 then opR (kS.getD (kI (hd0 (cutB 32 s))) 0) ((kI (hd0 (cutB 32 s)) : Int) + 1) (cutB 32 s).tail else none) := rfl
  generalize cutB 32 s = ps at *
  generalize opM s = res at *
  have hb0 : Below w.heap.size w (w.alloc (.cells #[.int .i64 0, .string ⟨#[]⟩, .string ⟨#[]⟩, .int .i64 0, .slice none 0 0, .slice none 0 0] 38)) := (Below.refl _ _).alloc (Nat.le_refl _) _
  go_enter Tryz.func16, Tryz.ntmps16
  go_wp2_with fail
  refine (HC.out _ hb0).mono ?_
  rintro e w1 ⟨p, rfl, hp, hP1, hb1⟩
  rw [size_alloc] at hp hb1
  have hr1 := (hb1.block w.heap.size (by omega)).trans (World.heap_alloc_new w (.cells #[.int .i64 0, .string ⟨#[]⟩, .string ⟨#[]⟩, .int .i64 0, .slice none 0 0, .slice none 0 0] 38))
  have hbw1 : Below w.heap.size w w1 := hb0.trans (hb1.mono (by omega))
  have HN := hdN (next_any p ps false w1 hP1 HL.out)
  change Hid (Calls _ _ _ _ fun e w' => e = .returned (.string (hd0 ps)) ∧ Pt w' p ps.tail false ∧ Only p w1 w') at HN
  clear HC hb1 hb0
  go_wp2_with fail
  refine HN.out.mono ?_
  rintro e w2 ⟨rfl, hP2, ho2⟩
  have hp1 := hP1.lt
  have hr2 := (ho2.block w.heap.size (by omega) (by omega)).trans hr1
  have hbw2 : Below w.heap.size w w2 := hbw1.trans (ho2.below (by omega) hbw1.size)
  have hs2 := ho2.size
  have hp2 := hP2.lt
  generalize hd0 ps = x at *
  clear hP1 HN hr1 ho2 hbw1
  obtain ⟨W3, hW3⟩ : ∃ W3, W3 = w2.alloc (.cells #[.string x] 9) := ⟨_, rfl⟩
  have hB3 : Below w2.heap.size w2 W3 := by rw [hW3]; exact (Below.refl _ _).alloc (Nat.le_refl _) _
  have hx3 : W3.cell? ⟨w2.heap.size, 0, none⟩ = some (.string x) := by
    rw [hW3]
    have h0 : (w2.alloc (.cells #[.string x] 9)).heap[w2.heap.size]? = some (.cells #[.string x] 9 (0, 0)) := World.heap_alloc_new _ _
    simp only [World.cell?, h0]
    rfl
  have hs3 : w2.heap.size < W3.heap.size := by rw [hW3]; simp
  have hbw3 : Below w.heap.size w W3 := hbw2.trans (hB3.mono hbw2.size)
  have hr3 := (hB3.block w.heap.size (by omega)).trans hr2
  have hP3 := hP2.below hB3
  have HF := hdN (findKind_any x g w2.heap.size W3 (hk.below hbw3) hs3 hx3)
  have hkg := hk.1
  clear hx3 hB3 hP2 hr2 hbw2
  go_wp2_with fail
  rw [← hW3]
  refine HF.out.mono ?_
  rintro e w4 ⟨rfl, hb4⟩
  clear HF hW3
  have hbw4 : Below w.heap.size w w4 := hbw3.trans (hb4.mono hbw3.size)
  have hr4 := (hb4.block w.heap.size (by omega)).trans hr3
  have hP4 := hP3.below hb4
  have hk4 := hk.below hbw4
  have hs4 := hb4.size
  clear hb4 hr3 hP3 hbw3
  by_cases hi : kI x < 17
  · rw [kR_lt hi]
    have HM' := HM.out
    rw [if_pos hi] at HM'
    obtain ⟨a0, a1, a2⟩ := hk4.2 _ hi
    have hgl := hk4.1
    have HR : Hid (∀ (w' : World) (b : Nat) (k : Int), Pt w' p ps.tail false → Below w.heap.size w w' → OpC w' b k ⟨#[]⟩ ⟨#[]⟩ 0 (.slice none 0 0) (.slice none 0 0) → p < b → Calls Tryz.prog (kF.getD (kI x) 0) #[.pointer (some ⟨p, 0, none⟩), .pointer (some ⟨b, 0, none⟩)] w' fun e w'' => (∃ v, e = .returned v) ∧ RdP w' w'' p b k (opR (kS.getD (kI x) 0) k ps.tail)) :=
      fun w' b k h hb hO hpb => reader_any (kI x) hi p b ps.tail k w' w h (len_tail HL.out) (sub_tail HZ.out) hv hb (by omega) hO hpb
    have HE : Hid (kF.getD (kI x) 0 = 30 ∨ kF.getD (kI x) 0 = 32 ∨ kF.getD (kI x) 0 = 31 ∨ kF.getD (kI x) 0 = 34 ∨ kF.getD (kI x) 0 = 36 ∨ kF.getD (kI x) 0 = 35 ∨ kF.getD (kI x) 0 = 33) := by
      rcases kFS _ hi with h | h | h | h | h | h | h
      · exact .inl h.1
      · exact .inr (.inl h.1)
      · exact .inr (.inr (.inl h.1))
      · exact .inr (.inr (.inr (.inl h.1)))
      · exact .inr (.inr (.inr (.inr (.inl h.1))))
      · exact .inr (.inr (.inr (.inr (.inr (.inl h.1)))))
      · exact .inr (.inr (.inr (.inr (.inr (.inr h.1)))))
    have HMM := hdN HM'
    clear HM HM'
    generalize kF.getD (kI x) 0 = fn at *
    generalize kS.getD (kI x) 0 = sh at *
    generalize kN.getD (kI x) ByteArray.empty = nm at *
    generalize kI x = i at *
    have hi' : (i : Int) < 17 := by omega
    have hin : ¬ (i : Int) < 0 := by omega
    go_upto_region 7 with fail
    obtain ⟨W5, hW5⟩ : ∃ W5, W5 = w4.alloc (.cells #[.int .i64 ((i : Int) + 1), .string ⟨#[]⟩, .string ⟨#[]⟩, .int .i64 0, .slice none 0 0, .slice none 0 0] 38) := ⟨_, rfl⟩
    have hb5 : Below w4.heap.size w4 W5 := by rw [hW5]; exact (Below.refl _ _).alloc (Nat.le_refl _) _
    have hO5 : OpC W5 w4.heap.size ((i : Int) + 1) ⟨#[]⟩ ⟨#[]⟩ 0 (.slice none 0 0) (.slice none 0 0) := by rw [hW5]; exact World.heap_alloc_new _ _
    have hbw5 : Below w.heap.size w W5 := hbw4.trans (hb5.mono hbw4.size)
    have hr5 := (hb5.block w.heap.size (by omega)).trans hr4
    have hP5 := hP4.below hb5
    have a5 := (hb5.cell (p := ⟨g, i * 3 + 2, none⟩) hgl).trans a2
    have hg5 : g < W5.heap.size := Nat.lt_of_lt_of_le hgl hb5.size
    have HRD := hdN (HR.out W5 _ _ hP5 hbw5 hO5 (by omega))
    rw [← hW5]
    have hp4 : p < w4.heap.size := by omega
    have hs5 := hb5.size
    clear hW5 hb5 hO5 hP5 hP4 hr4 hbw4 a0 a1 a2 hk4 hk hv HR hgl
    have HW5 := hdN hbw5
    have HR5 := hdN hr5
    generalize w4.heap.size = b at *
    clear hbw5 hr5
    have heg : ∀ args w, (callFunc fn args).run Tryz.prog w = .ok (.enter fn args) w := by
      rcases HE.out with rfl | rfl | rfl | rfl | rfl | rfl | rfl
      · exact enters_of Tryz.func30 (by kernel_rfl) rfl
      · exact enters_of Tryz.func32 (by kernel_rfl) rfl
      · exact enters_of Tryz.func31 (by kernel_rfl) rfl
      · exact enters_of Tryz.func34 (by kernel_rfl) rfl
      · exact enters_of Tryz.func36 (by kernel_rfl) rfl
      · exact enters_of Tryz.func35 (by kernel_rfl) rfl
      · exact enters_of Tryz.func33 (by kernel_rfl) rfl
    all_goals
      go_wp2_with fail
      refine HRD.out.mono ?_
      rintro e w6 ⟨⟨v6, rfl⟩, o, r', fl', ba, bk, hP6, hO6, hkd, hB6, hR6, hl6, hok, hres⟩
      have hs56 := hB6.size
      obtain ⟨-, ab, cb, rfl, -⟩ := resE_of_owns hR6.1
      obtain ⟨-, ak, ck, rfl, -⟩ := resI_of_owns hR6.2
      have hr6 := (hB6.block w.heap.size (by omega)).trans HR5.out
      have HB6 := hdN (HW5.out.trans (hB6.mono (by omega)))
      have HRO := hdN hR6
      have HOK := hdN hok
      have HRS := hdN hres
      have hp6 : Pt w6.drew p r' fl' := hP6
      have HD := hdN (done_any p r' fl' w6.drew hp6 hl6)
      rw [hok] at HD
      have HO6 := hdN hO6
      have HR6 := hdN hr6
      obtain ⟨x0, x1, x2, x3, x4, x5⟩ := six_cells hO6
      obtain ⟨y0, y1, y2, y3, y4, y5⟩ := six_cells hr6
      obtain ⟨z0, z1, z2, z3, z4, z5⟩ := six_free hr6
      have hl9 := heap_ltP hO6
      have hl0 := heap_ltP hr6
      have hs6 := HB6.out.size
      have hkv := hkd
      clear hP6 hO6 hB6 hR6 hok hres hp6 hr6 HRD a5
      go_upto_region 8 with fail
      go_region_law (go_simp; go_at_call 29; refine HD.out.mono ?_; rintro e w7 ⟨rfl, hb7⟩; have HB7 := hdN hb7; have HO7 : Hid (OpC w7 b _ _ _ _ _ _) := (hb7.block b hl9).trans HO6.out; have HR7 := hdN ((hb7.block w.heap.size hl0).trans HR6.out); obtain ⟨u0, u1, u2, u3, u4, u5⟩ := six_cells HO7.out; obtain ⟨t0, t1, t2, t3, t4, t5⟩ := six_cells HR7.out; obtain ⟨f0, f1, f2, f3, f4, f5⟩ := six_free HR7.out; have hl7 := heap_ltP HR7.out; clear hb7)
      all_goals
        have HRF := hdN (set6 HR7.out (x0 := .int .i64 ((i : Int) + 1)) (x1 := .string o.ky) (x2 := .string o.vl) (x3 := .int .i64 o.n) (x4 := .slice ab o.bt.length cb) (x5 := .slice ak o.kp.length ck))
        have HBF : Hid (Below w.heap.size w ((((((w7.setCell ⟨w.heap.size, 0, none⟩ (.int .i64 ((i : Int) + 1))).setCell ⟨w.heap.size, 1, none⟩ (.string o.ky)).setCell ⟨w.heap.size, 2, none⟩ (.string o.vl)).setCell ⟨w.heap.size, 3, none⟩ (.int .i64 o.n)).setCell ⟨w.heap.size, 4, none⟩ (.slice ab o.bt.length cb)).setCell ⟨w.heap.size, 5, none⟩ (.slice ak o.kp.length ck))) :=
          belowSet (belowSet (belowSet (belowSet (belowSet (belowSet ((HB6.out.drew).trans (HB7.out.mono hs6)) (Nat.le_refl _)) (Nat.le_refl _)) (Nat.le_refl _)) (Nat.le_refl _)) (Nat.le_refl _)) (Nat.le_refl _)
        have HQF : Hid (RowsO ((((((w7.setCell ⟨w.heap.size, 0, none⟩ (.int .i64 ((i : Int) + 1))).setCell ⟨w.heap.size, 1, none⟩ (.string o.ky)).setCell ⟨w.heap.size, 2, none⟩ (.string o.vl)).setCell ⟨w.heap.size, 3, none⟩ (.int .i64 o.n)).setCell ⟨w.heap.size, 4, none⟩ (.slice ab o.bt.length cb)).setCell ⟨w.heap.size, 5, none⟩ (.slice ak o.kp.length ck)) w.heap.size (.slice ab o.bt.length cb) (.slice ak o.kp.length ck) o) := by
          have hq5 : w.heap.size < W5.heap.size := by omega
          have h7 : RowsO w7 W5.heap.size _ _ o := RowsO.below (w := w6.drew) HRO.out HB7.out
          exact ((((((h7.set hq5).set hq5).set hq5).set hq5).set hq5).set hq5).down (Nat.le_of_lt hq5)
        clear HR7 HO7 HB7 HRO u0 u1 u2 u3 u4 u5 x0 x1 x2 x3 x4 x5 y0 y1 y2 y3 y4 y5 HD HO6 HR6
        go_wp2_with fail
        clear t0 t1 t2 t3 t4 t5 f0 f1 f2 f3 f4 f5
        generalize (((((w7.setCell ⟨w.heap.size, 0, none⟩ (.int .i64 ((i : Int) + 1))).setCell ⟨w.heap.size, 1, none⟩ (.string o.ky)).setCell ⟨w.heap.size, 2, none⟩ (.string o.vl)).setCell ⟨w.heap.size, 3, none⟩ (.int .i64 o.n)).setCell ⟨w.heap.size, 4, none⟩ (.slice ab o.bt.length cb)).setCell ⟨w.heap.size, 5, none⟩ (.slice ak o.kp.length ck) = W9 at *
        obtain ⟨x0, x1, x2, x3, x4, x5⟩ := six_cells HRF.out
        refine bodyPost_ret (v := .tuple #[.agg #[.int .i64 ((i : Int) + 1), .string o.ky, .string o.vl, .int .i64 o.n, .slice ab o.bt.length cb, .slice ak o.kp.length ck], .bool (opR sh ((i : Int) + 1) ps.tail).isSome]) (by simp [results, Tryz.results16, go_sem, x0, x1, x2, x3, x4, x5]) rfl ⟨o, .slice ab o.bt.length cb, .slice ak o.kp.length ck, ?_, ?_, HBF.out, ⟨_, _, _, rfl⟩, ⟨_, _, _, rfl⟩⟩
        · rw [HMM.out, opA, hkv]
        · intro v hv
          rw [HMM.out] at hv
          exact ⟨HRS.out v hv, HQF.out⟩
  · rw [kR_no hi]
    have HM' := HM.out
    rw [if_neg hi] at HM'
    subst HM'
    obtain ⟨x0, x1, x2, x3, x4, x5⟩ := six_cells hr4
    obtain ⟨z0, z1, z2, z3, z4, z5⟩ := six_free hr4
    have hl4 := heap_ltP hr4
    clear HM hk hk4 hv
    go_wp2_with fail
    refine bodyPost_ret (v := .tuple #[opA ⟨0, ⟨#[]⟩, ⟨#[]⟩, 0, [], []⟩ (.slice none 0 0) (.slice none 0 0), .bool false]) (by simp [results, Tryz.results16, go_sem, opA, x0, x1, x2, x3, x4, x5]) rfl ⟨_, _, _, rfl, ?_, ?_, ⟨_, _, _, rfl⟩, ⟨_, _, _, rfl⟩⟩
    · intro v hv
      cases hv
    · exact belowSet (belowSet (belowSet (belowSet (belowSet (belowSet hbw4 (Nat.le_refl _)) (Nat.le_refl _)) (Nat.le_refl _)) (Nat.le_refl _)) (Nat.le_refl _)) (Nat.le_refl _)
end Go.Proofs.YtohpfjpgihcmiaaGreatDoor
