import Derived.Test.YtphikgobdfknkaaGreatDoorRmS

namespace Go.Proofs.YtphikgobdfknkaaGreatDoor
open Go.RowKit Go.Maps
set_option linter.unusedVariables false
set_option linter.unusedSimpArgs false

theorem keepX_blockM {g b : Nat} {w w' : World} (h : KeepX g b w w') {k : Nat} {cs : Array Value} {t : TypeId} {fz : Nat × Nat} (hk : w.heap[k]? = some (.cells cs t fz)) (h1 : k ≠ g) (h2 : k ≠ b) (ht : t ≠ 45) : w'.heap[k]? = some (.cells cs t fz) :=
  h k _ hk h1 h2 (fun cs' fz' e => by cases e; exact ht rfl)
theorem Cat.at {w : World} {B g b N M : Nat} {qs : List Tr} (h : Cat w B g b N M qs) (N' M' : Nat) (hN : w.heap.size ≤ N') : Cat w B g b N' M' qs := by
  obtain ⟨tv, D, h1, h2, h3, h4, -⟩ := h
  refine ⟨tv, D, h1, h2, h3, h4, fun k hk => .inl ?_⟩
  obtain ⟨cs, hcs⟩ := row_ref h4 hk
  have := heap_lt hcs
  omega
theorem Cat.zero {w : World} {B g b N M : Nat} {qs : List Tr} (h : Cat w B g b N M qs) : Cat w B g b 0 0 qs := by
  obtain ⟨tv, D, h1, h2, h3, h4, -⟩ := h
  exact ⟨tv, D, h1, h2, h3, h4, fun k hk => .inr (Nat.zero_le _)⟩
theorem Cat.set {w : World} {B g b N M p o : Nat} {qs : List Tr} {cs : Array Value} {t : TypeId} (h : Cat w B g b N M qs) (hp : w.heap[p]? = some (.cells cs t (0, 0))) (ht : t ≠ 45) (hg : g ≠ p) (v : Value) : Cat (w.setCell ⟨p, o, none⟩ v) B g b N M qs := by
  obtain ⟨tv, D, h1, h2, h3, h4, h5⟩ := h
  have hb : b ≠ p := fun e => by
    obtain ⟨es, cl, hm, -⟩ := h2
    rw [e, hp] at hm
    cases hm
  refine ⟨tv, D, (Below.heap_setCell _ _ _ _ (by simpa using hg)).trans h1, h2.setCell (a := ⟨p, o, none⟩) hb _, h3, ⟨h4.1, ?_⟩, h5⟩
  rcases h4.2 with h0 | ⟨rg, cap, cur, rfl, hB, hr, hrest⟩
  · exact .inl h0
  · have hne : rg ≠ p := fun e => by
      subst e
      rw [hp] at hr
      injection hr with hr
      injection hr with _ hr _
      exact ht hr
    exact .inr ⟨rg, cap, cur, rfl, hB, (Below.heap_setCell _ _ _ _ (by simpa using hne)).trans hr, hrest⟩
theorem set5 {w : World} {p : Nat} {t : TypeId} {y0 y1 y2 y3 y4 : Value} (h : w.heap[p]? = some (.cells #[y0, y1, y2, y3, y4] t (0, 0))) (x0 x1 x2 x3 x4 : Value) :
    (((((w.setCell ⟨p, 0, none⟩ x0).setCell ⟨p, 1, none⟩ x1).setCell ⟨p, 2, none⟩ x2).setCell ⟨p, 3, none⟩ x3).setCell ⟨p, 4, none⟩ x4).heap[p]? = some (.cells #[x0, x1, x2, x3, x4] t (0, 0)) :=
  setB (setB (setB (setB (setB h x0) x1) x2) x3) x4
theorem Cat.set5 {w : World} {B g b N M p : Nat} {qs : List Tr} {y0 y1 y2 y3 y4 : Value} {t : TypeId} (h : Cat w B g b N M qs) (hp : w.heap[p]? = some (.cells #[y0, y1, y2, y3, y4] t (0, 0))) (ht : t ≠ 45) (hg : g ≠ p) (x0 x1 x2 x3 x4 : Value) :
    Cat (((((w.setCell ⟨p, 0, none⟩ x0).setCell ⟨p, 1, none⟩ x1).setCell ⟨p, 2, none⟩ x2).setCell ⟨p, 3, none⟩ x3).setCell ⟨p, 4, none⟩ x4) B g b N M qs :=
  ((((h.set hp ht hg x0).set (setB hp x0) ht hg x1).set (setB (setB hp x0) x1) ht hg x2).set (setB (setB (setB hp x0) x1) x2) ht hg x3).set (setB (setB (setB (setB hp x0) x1) x2) x3) ht hg x4

set_option maxRecDepth 100000 in
set_option maxHeartbeats 4000000 in
theorem implRm_any (s : ByteArray) (w : World) (hs : s.size ≤ 1048576) (hst : Steps w) :
    Calls Tryz.prog 38 #[.string s] w fun r w' => ∃ a c, r = .returned (.tuple #[.agg #[.slice a (rmT s).length c, .int .i64 (rmE s).lg, .int .i64 (rmE s).nx, .int .i64 (rmE s).la], .int .i64 (rmP s : Nat), .bool (rmO s).isSome]) ∧ ResT w' w.heap.size a (rmT s) ∧ Below w.heap.size w w' := by
  have HNo : Hid (rmO s = none → rmT s = [] ∧ rmE s = ed0 ∧ rmP s = 0 ∧ (rmO s).isSome = false) := rm_none
  have HYes : Hid (∀ ts l, rmO s = some (ts, l) → rmT s = ts ∧ rmE s = l ∧ rmP s = lastN (rlL s 77) ∧ (rmO s).isSome = true) := fun ts l h => rm_some h
  have HO : Hid (rmO s = if (pm s).length = 0 then none else foldM [] ed0 (pm s)) := rfl
  have HSz := hd (pm_size s hs)
  have hpl := pm_len s
  have HPl : Hid ((rlL s 77).length = (pm s).length) := by show _ = _; unfold pm; rw [List.length_map]
  have hb0 : Below w.heap.size w (w.alloc (.cells #[.slice none 0 0, .int .i64 0, .int .i64 0, .int .i64 0] 40)) := (Below.refl _ _).alloc (Nat.le_refl _) _
  have HLg := hd (implLog_any s 77 (w.alloc (.cells #[.slice none 0 0, .int .i64 0, .int .i64 0, .int .i64 0] 40)) hs (hst.below hb0))
  have HPm : Hid ((rlL s 77).map rfB = pm s) := rfl
  rw [HPm.out, HPl.out] at HLg
  clear HPm HPl
  generalize lastN (rlL s 77) = LN at *
  generalize pm s = ps at *
  generalize rmP s = RP at *
  generalize rmT s = RT at *
  generalize rmE s = RE at *
  generalize rmO s = RO at *
  generalize RO.isSome = RB at *
  have hV0 : (w.alloc (.cells #[.slice none 0 0, .int .i64 0, .int .i64 0, .int .i64 0] 40)).heap[w.heap.size]? = some (.cells #[.slice none 0 0, .int .i64 0, .int .i64 0, .int .i64 0] 40 (0, 0)) := World.heap_alloc_new _ _
  have hs0 : (w.alloc (.cells #[.slice none 0 0, .int .i64 0, .int .i64 0, .int .i64 0] 40)).heap.size = w.heap.size + 1 := by simp
  generalize hW0 : w.alloc (.cells #[.slice none 0 0, .int .i64 0, .int .i64 0, .int .i64 0] 40) = W0 at *
  go_enter Tryz.func38, Tryz.ntmps38
  go_wp2_with fail
  refine HLg.out.mono ?_
  rintro r w1 ⟨al, cl, rfl, hr1, hb1⟩
  clear hW0
  have hs1 := hb1.size
  have HV1 := hd ((hb1.block w.heap.size (by omega)).trans hV0)
  have HB1 := hd (hb0.trans (hb1.mono hb0.size))
  have HR1 := hd hr1.lie
  have hlw1 := heap_lt HV1.out
  clear hb1 hb0 hV0 hr1 HLg
  by_cases hn : ps.length = 0
  · have hn' : ((ps.length : Nat) : Int) = 0 := by omega
    have hro : RO = none := by rw [HO.out, if_pos hn]
    obtain ⟨rfl, rfl, rfl, rfl⟩ := HNo.out hro
    obtain ⟨⟨y0, y1, y2, y3⟩, z0, z1, z2, z3⟩ := fourS HV1.out
    have hlq := hlw1
    go_wp2_with fail
    refine bodyPost_ret (v := .tuple #[.agg #[.slice none 0 0, .int .i64 0, .int .i64 0, .int .i64 0], .int .i64 0, .bool false]) (by simp [results, Tryz.results38, go_sem, y0, y1, y2, y3, hlq]) rfl ⟨none, 0, rfl, .inl rfl, ?_⟩
    exact below4 HB1.out (Nat.le_refl _) _ _ _ _
  · have hn' : ¬ ((ps.length : Nat) : Int) = 0 := by omega
    have hnb : (((ps.length : Nat) : Int) == 0) = false := by simpa using hn'
    have HF : Hid (RO = foldM [] ed0 ps) := by show _ = _; rw [HO.out, if_neg hn]
    clear HO
    have HNC := hd (newCatalog_any w1 0 0)
    go_wp2_with fail
    refine HNC.out.mono ?_
    rintro r w2 ⟨rfl, hcat2, hb2, hs2⟩
    have hA2 : Below w2.heap.size w2 (w2.alloc (.cells #[.slice none 0 0, .slice none 0 0, .int .i64 0, .int .i64 0, .int .i64 0] 68)) := (Below.refl _ _).alloc (Nat.le_refl _) _
    have hX8 : (w2.alloc (.cells #[.slice none 0 0, .slice none 0 0, .int .i64 0, .int .i64 0, .int .i64 0] 68)).heap[w1.heap.size + 2]? = some (.cells #[.slice none 0 0, .slice none 0 0, .int .i64 0, .int .i64 0, .int .i64 0] 68 (0, 0)) := by rw [← hs2]; exact World.heap_alloc_new _ _
    have hcat3 := hcat2.alloc (.cells #[.slice none 0 0, .slice none 0 0, .int .i64 0, .int .i64 0, .int .i64 0] 68)
    have hb13 : Below w1.heap.size w1 (w2.alloc (.cells #[.slice none 0 0, .slice none 0 0, .int .i64 0, .int .i64 0, .int .i64 0] 68)) := hb2.trans (hA2.mono hb2.size)
    have HC3 := hd (And.intro hcat3 (And.intro hX8 hb13))
    clear hcat2 hb2 hA2 hX8 hcat3 hb13 HNC
    go_wp2_with fail
    go_loopw [25] (fun y wr => ∃ (k : Nat) (ts : List Tr) (l : Ed) (a : Option Addr) (ca : Nat) (d : Option Addr) (cd : Nat) (qs : List Tr), y = .int .i64 k ∧ k ≤ ps.length ∧ Hid (RO = foldM ts l (ps.drop k)) ∧ GoodTs ts ∧ Hid (qs.Perm ts) ∧ Cat wr (w1.heap.size + 2) (w1.heap.size + 1) w1.heap.size 0 0 qs ∧ wr.heap[w1.heap.size + 2]? = some (.cells #[.slice a l.ad.length ca, .slice d l.dl.length cd, .int .i64 l.lg, .int .i64 l.nx, .int .i64 l.la] 68 (0, 0)) ∧ Below w1.heap.size w1 wr) (fun y _ => ps.length - (intOf y).toNat)
    case atStart => exact ⟨0, [], ed0, none, 0, none, 0, [], rfl, Nat.zero_le _, by show _ = _; rw [List.drop_zero]; exact HF.out, goodTs_nil, List.Perm.refl _, HC3.out.1, HC3.out.2.1, HC3.out.2.2⟩
    case round =>
      clear HC3 HF
      obtain ⟨k, ts, l, a, ca, d, cd, qs, rfl, hk, HS, hgt, HPm, hcat, hX, hb⟩ := hrel
      have hbs := hb.size
      have HVr := hd ((hb.block w.heap.size hlw1).trans HV1.out)
      have HBr := hd (HB1.out.trans (hb.mono HB1.out.size))
      have hlwr := heap_lt HVr.out
      have hlXr := heap_lt hX
      by_cases hlt : k < ps.length
      · obtain ⟨pg, rfl, hpg, cA⟩ := HR1.out.at hlt
        have c0 := (hb.cell (p := ⟨pg, k, none⟩) hpg).trans cA
        have hik : (k : Int) < (ps.length : Int) := by omega
        have hsz := HSz.out _ (getS_mem ps k hlt)
        have HD : Hid (ps.drop k = ps.getD k ByteArray.empty :: ps.drop (k + 1)) := dropS_cons ps k hlt
        rw [HD.out] at HS
        have HDec := hd (implDecEd_any (ps.getD k ByteArray.empty) wr hsz)
        clear HD cA hsz
        generalize ps.getD k ByteArray.empty = p at *
        have HNone : Hid ((decEd p).isSome = false → RO = none) := fun h => HS.out.trans (foldM_none h)
        have HBad : Hid ((decEd p).isSome = true → apOk ts (edR p) = false → RO = none) := fun h1 h2 => HS.out.trans (foldM_bad h1 h2)
        have HStep : Hid ((decEd p).isSome = true → apOk ts (edR p) = true → RO = foldM (apS ts (edR p)) (edR p) (ps.drop (k + 1))) := fun h1 h2 => HS.out.trans (foldM_step h1 h2)
        have HEok : Hid ((decEd p).isSome = true → edOk (edR p) = true) := edR_ok
        generalize edR p = e at *
        generalize (decEd p).isSome = ok at *
        have HX := hd hX
        have HC := hd hcat
        have HB := hd hb
        have HG := hd hgt
        clear hX hcat hb hgt HS
        go_wp2_with fail
        refine HDec.out.mono ?_
        rintro r w4 ⟨a2, c2, d2, cd2, rfl, hT4, hI4, hb4⟩
        have hs4 := hb4.size
        have HV4 := hd ((hb4.block w.heap.size hlwr).trans HVr.out)
        have HX4 := hd ((hb4.block (w1.heap.size + 2) hlXr).trans HX.out)
        have HB14 := hd (HB.out.trans (hb4.mono (by omega)))
        have HBw4 := hd (HBr.out.trans (hb4.mono HBr.out.size))
        have hlw4 := heap_lt HV4.out
        have hlX4 := heap_lt HX4.out
        have hA4 : Below w4.heap.size w4 (w4.alloc (.cells #[.slice a2 e.ad.length c2, .slice d2 e.dl.length cd2, .int .i64 e.lg, .int .i64 e.nx, .int .i64 e.la] 68)) := (Below.refl _ _).alloc (Nat.le_refl _) _
        have hX11 : (w4.alloc (.cells #[.slice a2 e.ad.length c2, .slice d2 e.dl.length cd2, .int .i64 e.lg, .int .i64 e.nx, .int .i64 e.la] 68)).heap[w4.heap.size]? = some (.cells #[.slice a2 e.ad.length c2, .slice d2 e.dl.length cd2, .int .i64 e.lg, .int .i64 e.nx, .int .i64 e.la] 68 (0, 0)) := World.heap_alloc_new _ _
        have hs5 : (w4.alloc (.cells #[.slice a2 e.ad.length c2, .slice d2 e.dl.length cd2, .int .i64 e.lg, .int .i64 e.nx, .int .i64 e.la] 68)).heap.size = w4.heap.size + 1 := by simp
        have hb5 : Below wr.heap.size wr (w4.alloc (.cells #[.slice a2 e.ad.length c2, .slice d2 e.dl.length cd2, .int .i64 e.lg, .int .i64 e.nx, .int .i64 e.la] 68)) := hb4.trans (hA4.mono hs4)
        have HE5 := hd (And.intro (hT4.below hA4) (And.intro (hI4.below hA4) (And.intro hX11 (And.intro hb5 hA4))))
        clear hT4 hI4 hb4 hA4 hX11 hb5 c0 HDec HVr HX HBr
        cases ok with
        | false =>
          have hro := HNone.out (by trivial)
          obtain ⟨rfl, rfl, rfl, rfl⟩ := HNo.out hro
          obtain ⟨⟨y0, y1, y2, y3⟩, z0, z1, z2, z3⟩ := fourS HV4.out
          have hlq := hlw4
          go_wp2_with fail
          refine bodyPost_ret (v := .tuple #[.agg #[.slice none 0 0, .int .i64 0, .int .i64 0, .int .i64 0], .int .i64 0, .bool false]) (by simp [results, Tryz.results38, go_sem, y0, y1, y2, y3, hlq]) rfl ⟨none, 0, rfl, .inl rfl, ?_⟩
          exact (below4 HBw4.out (Nat.le_refl _) _ _ _ _).alloc (by have := HBw4.out.size; simp [World.setCell]; omega) _
        | true =>
          have heo := HEok.out (by trivial)
          obtain ⟨ef, ew, ek, el1, el2⟩ := ed_parts heo
          have HApS := hd (apOk_step (e := e) HPm.out HG.out.good HG.out.len heo)
          clear HNone HEok
          go_wp2_with fail
          generalize w4.alloc (.cells #[.slice a2 e.ad.length c2, .slice d2 e.dl.length cd2, .int .i64 e.lg, .int .i64 e.nx, .int .i64 e.la] 68) = w5 at *
          obtain ⟨hT5, hI5, hX11, hb5, hA4⟩ := HE5.out
          have hlq : qs.length ≤ 1000 := by rw [HPm.out.length_eq]; exact HG.out.len
          have HTA := hd (takeAll_any w1.heap.size (w1.heap.size + 2) (w1.heap.size + 1) w1.heap.size wr.heap.size w5.heap.size qs e.dl d2 cd2 w5 (fun w' _ hk => (hI5.kept (fun k h1 h2 => hk k h1 h2)).lie) ((HC.out.at wr.heap.size w5.heap.size (Nat.le_refl _)).below hb5) (by omega) (Nat.le_refl _) (by omega) (by omega) ek (fun t h => HG.out.wf t (HPm.out.mem_iff.1 h)) (by omega) (by omega) (Nat.le_refl _) (.inl (by omega)) (.inl (by omega)))
          have HV5 := hd ((hA4.block w.heap.size hlw4).trans HV4.out)
          have HX5 := hd ((hA4.block (w1.heap.size + 2) hlX4).trans HX4.out)
          have HBw5 := hd (HBw4.out.trans (hA4.mono HBw4.out.size))
          have HB15 := hd (HB14.out.trans (hA4.mono (by omega)))
          have HT5 := hd hT5
          have HX11 := hd hX11
          clear hT5 hI5 hX11 hb5 hA4 HE5 HV4 HX4 HBw4 HB14
          cases hdel : delsOk qs e.dl with
          | false =>
            rw [hdel] at HTA
            have hro := HBad.out (by trivial) (by rw [HApS.out, hdel]; rfl)
            obtain ⟨rfl, rfl, rfl, rfl⟩ := HNo.out hro
            refine HTA.out.mono ?_
            rintro r w6 ⟨rfl, hb6, hx6, -, -⟩
            have HBw6 := hd (HBw5.out.trans (hb6.mono (by omega)))
            obtain ⟨⟨y0, y1, y2, y3⟩, z0, z1, z2, z3⟩ := fourS ((hb6.block w.heap.size hlw1).trans HV5.out)
            clear hb6 hx6
            go_wp2_with fail
            refine bodyPost_ret (v := .tuple #[.agg #[.slice none 0 0, .int .i64 0, .int .i64 0, .int .i64 0], .int .i64 0, .bool false]) (by simp [results, Tryz.results38, go_sem, y0, y1, y2, y3]) rfl ⟨none, 0, rfl, .inl rfl, ?_⟩
            exact below4 HBw6.out (Nat.le_refl _) _ _ _ _
          | true =>
            rw [hdel] at HTA
            refine HTA.out.mono ?_
            rintro r w6 ⟨rfl, hb6, hx6, hkp6, hc6⟩
            obtain ⟨qs2, hp2, hcat6⟩ := hc6 (by trivial)
            have hs6 := hb6.size
            have hgq : qs.Pairwise GoodP := (pair_perm HPm.out).2 HG.out.good
            have hg2 : qs2.Pairwise GoodP := (pair_perm hp2).2 (leftT_good hgq _)
            have HOa := hd (okAdd_perm hp2 hg2 e)
            have hl2 : qs2.length ≤ 1000 := by
              have h := hp2.length_eq
              have h' : (leftT qs e.dl).length ≤ qs.length := List.length_filter_le _ _
              omega
            have HAD := hd (addAll_any w1.heap.size (w1.heap.size + 2) (w1.heap.size + 1) w1.heap.size wr.heap.size w5.heap.size qs2 a2 c2 d2 cd2 e w6 (fun w' _ hk => (HT5.out.kept (fun k h1 h2 => (hk k h1 h2).trans (hkp6 k h1 h2))).lie) hcat6 (by omega) (Nat.le_refl _) (by omega) (by omega) (by omega) ew (by omega) hs6 (.inl (by omega)) (.inl (by omega)))
            have HX11_6 := hd ((hkp6 w4.heap.size (by omega) (by omega)).trans HX11.out)
            have HV6 := hd ((hb6.block w.heap.size hlw1).trans HV5.out)
            have HX6 := hd (keepX_blockM hx6 HX5.out (by omega) (by omega) (by decide))
            have HBw6 := hd (HBw5.out.trans (hb6.mono (by omega)))
            have HB16 := hd (HB15.out.trans hb6)
            have hl116 := heap_lt HX11_6.out
            obtain ⟨p0, p1, p2, p3, p4⟩ := five_cells HX11_6.out
            have HP2 := hd hp2
            clear hb6 hx6 hkp6 hc6 hcat6 HX5 HV5 HBw5 HB15 hp2 HTA HX11
            go_wp2_with fail
            cases hoa : okAdd qs2 e with
            | false =>
              rw [hoa] at HAD
              have hro := HBad.out (by trivial) (by rw [HApS.out, hdel, ← HOa.out, hoa]; rfl)
              obtain ⟨rfl, rfl, rfl, rfl⟩ := HNo.out hro
              refine HAD.out.mono ?_
              rintro r w7 ⟨rfl, hb7, hx7, -, -⟩
              have HBw7 := hd (HBw6.out.trans (hb7.mono (by omega)))
              obtain ⟨⟨y0, y1, y2, y3⟩, z0, z1, z2, z3⟩ := fourS ((hb7.block w.heap.size hlw1).trans HV6.out)
              clear hb7 hx7 p0 p1 p2 p3 p4
              go_wp2_with fail
              refine bodyPost_ret (v := .tuple #[.agg #[.slice none 0 0, .int .i64 0, .int .i64 0, .int .i64 0], .int .i64 0, .bool false]) (by simp [results, Tryz.results38, go_sem, y0, y1, y2, y3]) rfl ⟨none, 0, rfl, .inl rfl, ?_⟩
              exact below4 HBw7.out (Nat.le_refl _) _ _ _ _
            | true =>
              rw [hoa] at HAD
              have hap : apOk ts e = true := by rw [HApS.out, hdel, ← HOa.out, hoa]; rfl
              have HN := hd (HStep.out (by trivial) hap)
              have HGn := hd (goodTs_next HG.out heo hap)
              have HPn : Hid ((qs2 ++ e.ad).Perm (apS ts e)) := ((HP2.out.trans (leftT_perm HPm.out e.dl)).append_right e.ad).trans (apS_perm ts e).symm
              refine HAD.out.mono ?_
              rintro r w7 ⟨rfl, hb7, hx7, hkp7, hc7⟩
              have hcat7 := hc7 (by trivial)
              have hs7 := hb7.size
              have HX11_7 := hd ((hkp7 w4.heap.size (by omega) (by omega)).trans HX11_6.out)
              have HX7 := hd (keepX_blockM hx7 HX6.out (by omega) (by omega) (by decide))
              have HB17 := hd (HB16.out.trans hb7)
              have HC7 := hd hcat7.zero
              have hl117 := heap_lt HX11_7.out
              have hlX7 := heap_lt HX7.out
              clear hb7 hx7 hkp7 hc7 hcat7 p0 p1 p2 p3 p4 HAD
              obtain ⟨p0, p1, p2, p3, p4⟩ := five_cells HX11_7.out
              obtain ⟨q0, q1, q2, q3, q4⟩ := five_cells HX7.out
              obtain ⟨f0, f1, f2, f3, f4⟩ := five_free HX7.out
              go_wp2_with fail
              refine ⟨⟨k + 1, apS ts e, e, a2, c2, d2, cd2, qs2 ++ e.ad, by simp, by omega, HN, HGn.out, HPn, HC7.out.set5 HX7.out (by decide) (by omega) _ _ _ _ _, set5 HX7.out _ _ _ _ _, ?_⟩, by simp only [intOf]; omega⟩
              repeat refine below_setN (by omega) ?_
              exact HB17.out
      · obtain rfl : k = ps.length := by omega
        have hik : ¬ (ps.length : Int) < (ps.length : Int) := by omega
        have hro : RO = some (ts, l) := by rw [HS.out, List.drop_length]; rfl
        obtain ⟨rfl, rfl, rfl, rfl⟩ := HYes.out _ _ hro
        have hlq : qs.length ≤ 1000 := by rw [HPm.out.length_eq]; exact hgt.len
        have HVS := hd (version_any (w1.heap.size + 2) (w1.heap.size + 1) w1.heap.size 0 0 qs a ca d cd RE wr hcat (by omega))
        obtain ⟨p0, p1, p2, p3, p4⟩ := five_cells hX
        have HG := hd hgt
        clear hX hcat hb hgt
        go_wp2_with fail
        refine HVS.out.mono ?_
        rintro r w9 ⟨a', c', ys, rfl, hp, hsr, hres, hb9⟩
        have hys : ys = RT := sorted_eq (hp.trans HPm.out) hsr HG.out.sorted HG.out.good
        subst hys
        obtain ⟨⟨y0, y1, y2, y3⟩, z0, z1, z2, z3⟩ := fourS ((hb9.block w.heap.size hlwr).trans HVr.out)
        have HB9 := hd (HBr.out.trans (hb9.mono HBr.out.size))
        have HR9 := hd hres
        clear hb9 hres p0 p1 p2 p3 p4
        go_wp2_with fail
        refine bodyPost_ret (v := .tuple #[.agg #[.slice a' ys.length c', .int .i64 RE.lg, .int .i64 RE.nx, .int .i64 RE.la], .int .i64 (RP : Nat), .bool true]) (by simp [results, Tryz.results38, go_sem, y0, y1, y2, y3]) rfl ?_
        have hfin : ResT ((((w9.setCell ⟨w.heap.size, 0, none⟩ (.slice a' ys.length c')).setCell ⟨w.heap.size, 1, none⟩ (.int .i64 RE.lg)).setCell ⟨w.heap.size, 2, none⟩ (.int .i64 RE.nx)).setCell ⟨w.heap.size, 3, none⟩ (.int .i64 RE.la)) w.heap.size a' ys := by
          refine ResT.wideN (B := wr.heap.size) ?_ (by omega)
          repeat refine ResT.setN (by omega) ?_
          exact HR9.out
        first
          | exact ⟨a', c', rfl, hfin, below4 HB9.out (Nat.le_refl _) _ _ _ _⟩
          | exact ⟨a', ⟨c', rfl⟩, hfin, below4 HB9.out (Nat.le_refl _) _ _ _ _⟩
end Go.Proofs.YtphikgobdfknkaaGreatDoor
