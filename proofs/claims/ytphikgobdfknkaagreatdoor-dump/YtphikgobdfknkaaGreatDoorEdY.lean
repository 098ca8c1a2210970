import Derived.Test.YtphikgobdfknkaaGreatDoorEdX
namespace Go.Proofs.YtphikgobdfknkaaGreatDoor
open Go.RowKit Go.Maps
set_option linter.unusedVariables false
set_option linter.unusedSimpArgs false

set_option maxRecDepth 100000 in
set_option maxHeartbeats 2000000 in
theorem implEdit_any (a : Option Addr) (ca : Nat) (d : Option Addr) (cd : Nat) (e : Ed) (w : World) (hx : LieT w a e.ad) (hf : FitsT e.ad) (hy : LieI w d e.dl) (hl1 : e.ad.length ≤ 1048576) (hl2 : e.dl.length ≤ 1048576) :
    Calls Tryz.prog 90 #[edV a ca d cd e] w fun r w' => r = .returned (.bool (edOk e)) ∧ Below w.heap.size w w' := by
  obtain ⟨xs, ks, lg, nx, la⟩ := e
  dsimp only at hx hf hy hl1 hl2
  have HF := hd (fun h => edOk_no (e := ⟨xs, ks, lg, nx, la⟩) h)
  have HT := hd ((edOk_iff ⟨xs, ks, lg, nx, la⟩).2)
  dsimp only at HF HT
  generalize edOk ⟨xs, ks, lg, nx, la⟩ = E at *
  have hP0 : (w.alloc (.cells #[.slice a xs.length ca, .slice d ks.length cd, .int .i64 lg, .int .i64 nx, .int .i64 la] 68)).heap[w.heap.size]? = some (.cells #[.slice a xs.length ca, .slice d ks.length cd, .int .i64 lg, .int .i64 nx, .int .i64 la] 68 (0, 0)) := World.heap_alloc_new _ _
  have hb0 : Below w.heap.size w (w.alloc (.cells #[.slice a xs.length ca, .slice d ks.length cd, .int .i64 lg, .int .i64 nx, .int .i64 la] 68)) := (Below.refl _ _).alloc (Nat.le_refl _) _
  have hx0 := hx.below hb0
  by_cases h1 : (xs.length : Int) ≤ 1000
  · go_enter Tryz.func90, Tryz.ntmps90
    go_wp2_with fail
    refine (allRefs_any a ca xs _ hx0 hf hl1).mono ?_
    rintro r w1 ⟨rfl, hb1⟩
    have hP1 := (hb1.block w.heap.size (by simp)).trans hP0
    have hb : Below w.heap.size w w1 := hb0.trans (hb1.mono hb0.size)
    obtain ⟨x0, x1, x2, x3, x4⟩ := five_cells hP1
    have hlt1 := heap_lt hP1
    have hy1 := hy.below hb
    clear hP0 hb0 hb1 hx0 hx hf hy
    cases ha : xs.all refOk with
    | false =>
      have hE := HF.out (fun h => by rw [ha] at h; exact absurd h.2.1 (by simp))
      subst hE
      go_wp2_with fail
      go_ret
      exact ⟨rfl, hb⟩
    | true =>
      by_cases h2 : (ks.length : Int) ≤ 1000
      · go_wp2_with fail
        refine (allNums_any d cd ks _ hy1 hl2).mono ?_
        rintro r w2 ⟨rfl, hb2⟩
        have hP2 := (hb2.block w.heap.size hlt1).trans hP1
        have hbw2 : Below w.heap.size w w2 := hb.trans (hb2.mono hb.size)
        obtain ⟨y0, y1, y2, y3, y4⟩ := five_cells hP2
        have hlt2 := heap_lt hP2
        clear hP1 hb hb2 x0 x1 x2 x3 x4 hy1
        cases hk : ks.all numOk with
        | false =>
          have hE := HF.out (fun h => by rw [hk] at h; exact absurd h.2.2.2.1 (by simp))
          subst hE
          go_wp2_with fail
          go_ret
          exact ⟨rfl, hbw2⟩
        | true =>
          go_wp2_with fail
          refine (implNum_any lg _).mono ?_
          rintro r w3 ⟨rfl, hb3⟩
          have hP3 := (hb3.block w.heap.size hlt2).trans hP2
          have hbw3 : Below w.heap.size w w3 := hbw2.trans (hb3.mono hbw2.size)
          obtain ⟨x0, x1, x2, x3, x4⟩ := five_cells hP3
          have hlt3 := heap_lt hP3
          clear hP2 hbw2 hb3 y0 y1 y2 y3 y4
          cases hg : numOk lg with
          | false =>
            have hE := HF.out (fun h => by rw [hg] at h; exact absurd h.2.2.2.2.1 (by simp))
            subst hE
            go_wp2_with fail
            go_ret
            exact ⟨rfl, hbw3⟩
          | true =>
            go_wp2_with fail
            refine (implNum_any nx _).mono ?_
            rintro r w4 ⟨rfl, hb4⟩
            have hP4 := (hb4.block w.heap.size hlt3).trans hP3
            have hbw4 : Below w.heap.size w w4 := hbw3.trans (hb4.mono hbw3.size)
            obtain ⟨y0, y1, y2, y3, y4⟩ := five_cells hP4
            have hlt4 := heap_lt hP4
            clear hP3 hbw3 hb4 x0 x1 x2 x3 x4
            cases hn : numOk nx with
            | false =>
              have hE := HF.out (fun h => by rw [hn] at h; exact absurd h.2.2.2.2.2.1 (by simp))
              subst hE
              go_wp2_with fail
              go_ret
              exact ⟨rfl, hbw4⟩
            | true =>
              by_cases hla : 0 ≤ la
              · by_cases hlb : la ≤ 72057594037927935
                · have hE := HT.out ⟨by omega, ha, by omega, hk, hg, hn, hla, hlb⟩
                  subst hE
                  go_wp2_with fail
                  go_ret
                  exact ⟨rfl, hbw4⟩
                · have hE := HF.out (fun h => by omega)
                  subst hE
                  go_wp2_with fail
                  go_ret
                  exact ⟨ret_bool (decide_eq_false (by omega)), hbw4⟩
              · have hE := HF.out (fun h => by omega)
                subst hE
                go_wp2_with fail
                go_ret
                exact ⟨rfl, hbw4⟩
      · have hE := HF.out (fun h => by omega)
        subst hE
        go_wp2_with fail
        go_ret
        exact ⟨rfl, hb⟩
  · have hE := HF.out (fun h => by omega)
    subst hE
    go_enter Tryz.func90, Tryz.ntmps90
    go_wp2_with fail
    go_ret
    exact ⟨rfl, hb0⟩

set_option maxRecDepth 100000 in
set_option maxHeartbeats 2000000 in
theorem specEdit_any (a : Option Addr) (ca : Nat) (d : Option Addr) (cd : Nat) (e : Ed) (w : World) (hx : LieT w a e.ad) (hf : FitsT e.ad) (hy : LieI w d e.dl) (hl1 : e.ad.length ≤ 1048576) (hl2 : e.dl.length ≤ 1048576) :
    Calls Tryz.prog 48 #[edV a ca d cd e] w fun r w' => r = .returned (.bool (edOk e)) ∧ Below w.heap.size w w' := by
  obtain ⟨xs, ks, lg, nx, la⟩ := e
  dsimp only at hx hf hy hl1 hl2
  have HF := hd (fun h => edOk_no (e := ⟨xs, ks, lg, nx, la⟩) h)
  have HT := hd ((edOk_iff ⟨xs, ks, lg, nx, la⟩).2)
  dsimp only at HF HT
  generalize edOk ⟨xs, ks, lg, nx, la⟩ = E at *
  have hP0 : (w.alloc (.cells #[.slice a xs.length ca, .slice d ks.length cd, .int .i64 lg, .int .i64 nx, .int .i64 la] 68)).heap[w.heap.size]? = some (.cells #[.slice a xs.length ca, .slice d ks.length cd, .int .i64 lg, .int .i64 nx, .int .i64 la] 68 (0, 0)) := World.heap_alloc_new _ _
  have hb0 : Below w.heap.size w (w.alloc (.cells #[.slice a xs.length ca, .slice d ks.length cd, .int .i64 lg, .int .i64 nx, .int .i64 la] 68)) := (Below.refl _ _).alloc (Nat.le_refl _) _
  by_cases h1 : (1000 : Int) < xs.length
  · have hE := HF.out (fun h => by omega)
    subst hE
    go_enter Tryz.func48, Tryz.ntmps48
    go_wp2_with fail
    go_ret
    exact ⟨rfl, hb0⟩
  by_cases h2 : (1000 : Int) < ks.length
  · have hE := HF.out (fun h => by omega)
    subst hE
    go_enter Tryz.func48, Tryz.ntmps48
    go_wp2_with fail
    go_ret
    exact ⟨rfl, hb0⟩
  go_enter Tryz.func48, Tryz.ntmps48
  go_wp2_with fail
  refine (specNum_any lg _).mono ?_
  rintro r w1 ⟨rfl, hb1⟩
  have hP1 := (hb1.block w.heap.size (by simp)).trans hP0
  have hb : Below w.heap.size w w1 := hb0.trans (hb1.mono hb0.size)
  obtain ⟨x0, x1, x2, x3, x4⟩ := five_cells hP1
  have hlt1 := heap_lt hP1
  clear hP0 hb0 hb1
  cases hg : numOk lg with
  | false =>
    have hE := HF.out (fun h => by rw [hg] at h; exact absurd h.2.2.2.2.1 (by simp))
    subst hE
    go_wp2_with fail
    go_ret
    exact ⟨rfl, hb⟩
  | true =>
    go_wp2_with fail
    refine (specNum_any nx _).mono ?_
    rintro r w2 ⟨rfl, hb2⟩
    have hP2 := (hb2.block w.heap.size hlt1).trans hP1
    have hbw2 : Below w.heap.size w w2 := hb.trans (hb2.mono hb.size)
    obtain ⟨y0, y1, y2, y3, y4⟩ := five_cells hP2
    have hlt2 := heap_lt hP2
    clear hP1 hb hb2 x0 x1 x2 x3 x4
    cases hn : numOk nx with
    | false =>
      have hE := HF.out (fun h => by rw [hn] at h; exact absurd h.2.2.2.2.2.1 (by simp))
      subst hE
      go_wp2_with fail
      go_ret
      exact ⟨rfl, hbw2⟩
    | true =>
      go_wp2_with fail
      go_loopw [3] (fun y wr => ∃ k : Nat, y = .int .i64 k ∧ k ≤ xs.length ∧ (xs.take k).all refOk = true ∧ Below w.heap.size w wr ∧ wr.heap[w.heap.size]? = some (.cells #[.slice a xs.length ca, .slice d ks.length cd, .int .i64 lg, .int .i64 nx, .int .i64 la] 68 (0, 0))) (fun y _ => xs.length - (intOf y).toNat)
      case atStart => exact ⟨0, rfl, by omega, rfl, hbw2, hP2⟩
      case round =>
        clear hP2 hbw2 y0 y1 y2 y3 y4 hlt1 hlt2
        obtain ⟨k, rfl, hk, hall, hb, hP⟩ := hrel
        have hbs := hb.size
        obtain ⟨x0, x1, x2, x3, x4⟩ := five_cells hP
        have hltP := heap_lt hP
        by_cases hlt : k < xs.length
        · obtain ⟨b, off, rfl, hbl, c0, c1, c2, c3⟩ := (hx.below hb).at hlt
          have hfk := hf.at hlt
          have hik : (k : Int) < (xs.length : Int) := by omega
          have HB := hd (fun h => all_at hlt h)
          have HA : Hid (refOk (xs.getD k tr0) = true → (xs.take (k + 1)).all refOk = true) := fun h => by rw [takeT_snoc xs k hlt, List.all_append, hall]; simpa using h
          generalize xs.getD k tr0 = f at *
          go_wp2_with fail
          refine (specRef_any f _ hfk.1 hfk.2).mono ?_
          rintro e w3 ⟨rfl, hb3⟩
          have hbw3 : Below w.heap.size w w3 := hb.trans (hb3.mono hb.size)
          have hP3 := (hb3.block w.heap.size hltP).trans hP
          cases hok : refOk f with
          | false =>
            have hE := HF.out (fun h => by rw [HB.out hok] at h; exact absurd h.2.1 (by simp))
            subst hE
            go_wp2_with fail
            go_ret
            exact ⟨rfl, hbw3⟩
          | true =>
            have hAll := HA.out hok
            go_wp2_with fail
            exact ⟨⟨k + 1, by simp, by omega, hAll, hbw3, hP3⟩, by simp only [intOf]; omega⟩
        · obtain rfl : k = xs.length := by omega
          rw [List.take_length] at hall
          have ha := hd hall
          clear hall
          go_wp2_with fail
          go_loopw [4] (fun y wr => ∃ k : Nat, y = .int .i64 k ∧ k ≤ ks.length ∧ (ks.take k).all numOk = true ∧ Below w.heap.size w wr ∧ wr.heap[w.heap.size]? = some (.cells #[.slice a xs.length ca, .slice d ks.length cd, .int .i64 lg, .int .i64 nx, .int .i64 la] 68 (0, 0))) (fun y _ => ks.length - (intOf y).toNat)
          case atStart => exact ⟨0, rfl, by omega, rfl, hb, hP⟩
          case round =>
            clear hP hb x0 x1 x2 x3 x4 hltP hbs hlt hk
            obtain ⟨k, rfl, hk, hall, hb, hP⟩ := hrel
            have hbs := hb.size
            obtain ⟨x0, x1, x2, x3, x4⟩ := five_cells hP
            have hltP := heap_lt hP
            by_cases hlt : k < ks.length
            · obtain ⟨b, off, rfl, hbl, c0⟩ := (hy.below hb).at hlt
              have hik : (k : Int) < (ks.length : Int) := by omega
              have HB := hd (fun h => allI_at hlt h)
              have HA : Hid (numOk (ks.getD k 0) = true → (ks.take (k + 1)).all numOk = true) := fun h => by rw [takeI_snoc ks k hlt, List.all_append, hall]; simpa using h
              generalize ks.getD k 0 = f at *
              go_wp2_with fail
              refine (specNum_any f _).mono ?_
              rintro e w3 ⟨rfl, hb3⟩
              have hbw3 : Below w.heap.size w w3 := hb.trans (hb3.mono hb.size)
              have hP3 := (hb3.block w.heap.size hltP).trans hP
              cases hok : numOk f with
              | false =>
                have hE := HF.out (fun h => by rw [HB.out hok] at h; exact absurd h.2.2.2.1 (by simp))
                subst hE
                go_wp2_with fail
                go_ret
                exact ⟨rfl, hbw3⟩
              | true =>
                have hAll := HA.out hok
                go_wp2_with fail
                exact ⟨⟨k + 1, by simp, by omega, hAll, hbw3, hP3⟩, by simp only [intOf]; omega⟩
            · obtain rfl : k = ks.length := by omega
              rw [List.take_length] at hall
              have hz : ¬ 0 ≤ la ∨ (0 ≤ la ∧ ¬ la ≤ 72057594037927935) ∨ (0 ≤ la ∧ la ≤ 72057594037927935) := by omega
              rcases hz with z1 | ⟨z1, z2⟩ | ⟨z1, z2⟩
              · have hE := HF.out (fun h => by omega)
                subst hE
                go_wp2_with fail
                go_ret
                exact ⟨rfl, hb⟩
              · have hE := HF.out (fun h => by omega)
                subst hE
                go_wp2_with fail
                go_ret
                exact ⟨by simp [z2], hb⟩
              · have hE := HT.out ⟨by omega, ha.out, by omega, hall, hg, hn, z1, z2⟩
                subst hE
                go_wp2_with fail
                go_ret
                exact ⟨by simp [z2], hb⟩
end Go.Proofs.YtphikgobdfknkaaGreatDoor
namespace Go.Proofs.YtphikgobdfknkaaGreatDoor
open Go.RowKit Go.Maps
set_option linter.unusedVariables false
set_option linter.unusedSimpArgs false

/-- The bytes of a reference, of the first part of an edit, of its numbers, and of an edit. -/
def rbT (t : Tr) : List UInt8 := vb t.nu.toNat ++ vb t.lv.toNat ++ kyB t.lo ++ kyB t.hi
def adB (n : Nat) (xs : List Tr) : List UInt8 := vb n ++ xs.flatMap rbT
def dlB (ks : List Int) : List UInt8 := ks.flatMap fun k => vb k.toNat
def edB (e : Ed) : List UInt8 := adB e.ad.length e.ad ++ vb e.dl.length ++ dlB e.dl ++ vb e.lg.toNat ++ vb e.nx.toNat ++ vb e.la.toNat
def edT (e : Ed) : ByteArray := if edOk e = true then ⟨(edB e).toArray⟩ else ⟨#[]⟩

theorem txt_ext {a b : ByteArray} (h : a.data.toList = b.data.toList) : a = b := ByteArray.ext (Array.toList_inj.1 h)
theorem kyB_len {s : ByteArray} (h : s.size ≤ 1000) : (kyB s).length ≤ 1008 := by
  have := vb_len s.size
  simp only [kyB, List.length_append, dataL]
  omega
theorem rbT_len {t : Tr} (h : refOk t = true) : (rbT t).length ≤ 2032 := by
  obtain ⟨_, _, h3, h4, _⟩ := (refOk_iff t).1 h
  have a := vb_len t.nu.toNat
  have b := vb_len t.lv.toNat
  have c := kyB_len h3.2
  have d := kyB_len h4.2
  simp only [rbT, List.length_append]
  omega
theorem adB_len (n : Nat) (xs : List Tr) (h : xs.all refOk = true) : (adB n xs).length ≤ 8 + 2032 * xs.length := by
  have a := vb_len n
  have b : (xs.flatMap rbT).length ≤ 2032 * xs.length := by
    induction xs with
    | nil => simp
    | cons x r ih =>
      simp only [List.all_cons, Bool.and_eq_true] at h
      have := ih h.2
      have := rbT_len h.1
      simp only [List.flatMap_cons, List.length_append, List.length_cons]
      omega
  simp only [adB, List.length_append]
  omega
theorem dlB_len (ks : List Int) : (dlB ks).length ≤ 8 * ks.length := by
  induction ks with
  | nil => simp [dlB]
  | cons x r ih =>
    have := vb_len x.toNat
    simp only [dlB, List.flatMap_cons, List.length_append, List.length_cons] at *
    omega
theorem adB_snoc (n : Nat) (xs : List Tr) (t : Tr) : adB n (xs ++ [t]) = adB n xs ++ (vb t.nu.toNat ++ vb t.lv.toNat ++ kyB t.lo ++ kyB t.hi) := by
  simp [adB, rbT, List.flatMap_append]
theorem dlB_snoc (ks : List Int) (x : Int) : dlB (ks ++ [x]) = dlB ks ++ vb x.toNat := by simp [dlB, List.flatMap_append]
theorem txtS (l : List UInt8) : (⟨l.toArray⟩ : ByteArray).size = l.length := by
  show l.toArray.size = _
  simp

set_option maxRecDepth 100000 in
set_option maxHeartbeats 4000000 in
theorem specEncEd_any (a : Option Addr) (ca : Nat) (d : Option Addr) (cd : Nat) (e : Ed) (w : World) (hx : LieT w a e.ad) (hf : FitsT e.ad) (hy : LieI w d e.dl) (hl1 : e.ad.length ≤ 1048576) (hl2 : e.dl.length ≤ 1048576) :
    Calls Tryz.prog 47 #[edV a ca d cd e] w fun r w' => r = .returned (.string (edT e)) ∧ Below w.heap.size w w' := by
  have HO := hd (fun (w : World) (hx : LieT w a e.ad) (hy : LieI w d e.dl) => specEdit_any a ca d cd e w hx hf hy hl1 hl2)
  have HT : Hid (edOk e = true → edT e = ⟨(edB e).toArray⟩) := fun h => by unfold edT; rw [if_pos h]
  have HF : Hid (edOk e = false → edT e = ⟨#[]⟩) := fun h => by unfold edT; rw [if_neg (by simp [h])]
  have HI := hd ((edOk_iff e).1)
  generalize edT e = T at *
  have HB : Hid (edB e = adB e.ad.length e.ad ++ vb e.dl.length ++ dlB e.dl ++ vb e.lg.toNat ++ vb e.nx.toNat ++ vb e.la.toNat) := rfl
  generalize edB e = EB at *
  obtain ⟨xs, ks, lg, nx, la⟩ := e
  dsimp only at *
  have hP0 : (w.alloc (.cells #[.slice a xs.length ca, .slice d ks.length cd, .int .i64 lg, .int .i64 nx, .int .i64 la] 68)).heap[w.heap.size]? = some (.cells #[.slice a xs.length ca, .slice d ks.length cd, .int .i64 lg, .int .i64 nx, .int .i64 la] 68 (0, 0)) := World.heap_alloc_new _ _
  have hb0 : Below w.heap.size w (w.alloc (.cells #[.slice a xs.length ca, .slice d ks.length cd, .int .i64 lg, .int .i64 nx, .int .i64 la] 68)) := (Below.refl _ _).alloc (Nat.le_refl _) _
  go_enter Tryz.func47, Tryz.ntmps47
  go_wp2_with fail
  refine (HO.out _ (hx.below hb0) (hy.below hb0)).mono ?_
  rintro r w1 ⟨rfl, hb1⟩
  have hP1 := (hb1.block w.heap.size (by simp)).trans hP0
  have hb : Below w.heap.size w w1 := hb0.trans (hb1.mono hb0.size)
  obtain ⟨x0, x1, x2, x3, x4⟩ := five_cells hP1
  have hlt1 := heap_lt hP1
  clear hP0 hb0 hb1 HO
  cases hok : edOk ⟨xs, ks, lg, nx, la⟩ with
  | false =>
    have hE := HF.out hok
    subst hE
    go_wp2_with fail
    go_ret
    exact ⟨rfl, hb⟩
  | true =>
    have hE := HT.out hok
    obtain ⟨q1, q2, q3, q4, q5, q6, q7⟩ := HI.out hok
    subst hE
    clear HT HF HI hok
    have HAll := hd q2
    have HAllI := hd q4
    have HLG := hd ((numOk_iff _).1 q5)
    have HNX := hd ((numOk_iff _).1 q6)
    have HV : Hid (vtext (xs.length : Int) = ⟨(adB xs.length (xs.take 0)).toArray⟩) := by show _ = _; rw [vtext_in _ (by omega) (by omega)]; simp [adB]
    clear q2 q4 q5 q6
    go_wp2_with fail
    refine (specPut_any _ _).mono ?_
    rintro r w2 ⟨rfl, hb2⟩
    rw [HV.out]
    have hP2 := (hb2.block w.heap.size hlt1).trans hP1
    have hbw2 : Below w.heap.size w w2 := hb.trans (hb2.mono hb.size)
    clear x0 x1 x2 x3 x4 hP1 hb hb2 hlt1 HV
    go_wp2_with fail
    go_loopw [3, 4] (fun s y wr => ∃ k : Nat, y = .int .i64 k ∧ k ≤ xs.length ∧ s = .string ⟨(adB xs.length (xs.take k)).toArray⟩ ∧ Below w.heap.size w wr ∧ wr.heap[w.heap.size]? = some (.cells #[.slice a xs.length ca, .slice d ks.length cd, .int .i64 lg, .int .i64 nx, .int .i64 la] 68 (0, 0))) (fun _ y _ => xs.length - (intOf y).toNat)
    case atStart => exact ⟨0, rfl, by omega, rfl, hbw2, hP2⟩
    case round =>
      clear hP2 hbw2
      obtain ⟨k, rfl, hk, rfl, hb, hP⟩ := hrel
      have hbs := hb.size
      obtain ⟨x0, x1, x2, x3, x4⟩ := five_cells hP
      have hltP := heap_lt hP
      by_cases hlt : k < xs.length
      · obtain ⟨b, off, rfl, hbl, c0, c1, c2, c3⟩ := (hx.below hb).at hlt
        have hik : (k : Int) < (xs.length : Int) := by omega
        have hok : refOk (xs.getD k tr0) = true := by
          have e : xs.getD k tr0 = xs[k] := by simp [List.getD, hlt]
          rw [e]
          exact List.all_eq_true.1 HAll.out _ (List.getElem_mem hlt)
        obtain ⟨p1, p2, p3, p4, -⟩ := (refOk_iff _).1 hok
        have HEQ : Hid ((⟨(adB xs.length (xs.take k)).toArray⟩ : ByteArray) ++ vtext (xs.getD k tr0).nu ++ vtext (xs.getD k tr0).lv ++ ⟨(kyB (xs.getD k tr0).lo).toArray⟩ ++ ⟨(kyB (xs.getD k tr0).hi).toArray⟩ = ⟨(adB xs.length (xs.take (k + 1))).toArray⟩) := by
          show _ = _
          apply txt_ext
          rw [appL, appL, appL, appL, vtext_in _ (by omega) (by omega), vtext_in _ (by omega) (by omega), takeT_snoc xs k hlt, adB_snoc, textL, textL, textL, textL, textL, textL]
          simp only [List.append_assoc]
        have hsz : (⟨(adB xs.length (xs.take k)).toArray⟩ : ByteArray).size ≤ 2032008 := by
          rw [txtS]
          have h2 : (xs.take k).all refOk = true := List.all_eq_true.2 fun x hx => List.all_eq_true.1 HAll.out x (List.mem_of_mem_take hx)
          have := adB_len xs.length (xs.take k) h2
          rw [List.length_take] at this
          omega
        have s1 : (vtext (xs.getD k tr0).nu).size ≤ 8 := vtext_size _
        have s2 : (vtext (xs.getD k tr0).lv).size ≤ 8 := vtext_size _
        have s3 : (⟨(kyB (xs.getD k tr0).lo).toArray⟩ : ByteArray).size ≤ 1008 := by rw [txtS]; exact kyB_len p3.2
        have s4 : (⟨(kyB (xs.getD k tr0).hi).toArray⟩ : ByteArray).size ≤ 1008 := by rw [txtS]; exact kyB_len p4.2
        have HP1 := hd (specPut_any (xs.getD k tr0).nu)
        have HP2 := hd (specPut_any (xs.getD k tr0).lv)
        have HP3 := hd (fun w => l3Keyed_any (xs.getD k tr0).lo w (by omega))
        have HP4 := hd (fun w => l3Keyed_any (xs.getD k tr0).hi w (by omega))
        generalize (⟨(adB xs.length (xs.take k)).toArray⟩ : ByteArray) = S at *
        generalize hS' : (⟨(adB xs.length (xs.take (k + 1))).toArray⟩ : ByteArray) = S' at *
        have HS' := hd hS'
        clear hS'
        generalize vtext (xs.getD k tr0).nu = t1 at *
        generalize vtext (xs.getD k tr0).lv = t2 at *
        generalize (⟨(kyB (xs.getD k tr0).lo).toArray⟩ : ByteArray) = t3 at *
        generalize (⟨(kyB (xs.getD k tr0).hi).toArray⟩ : ByteArray) = t4 at *
        generalize xs.getD k tr0 = f at *
        obtain ⟨n, l, lo, hi⟩ := f
        dsimp only at *
        clear p1 p2 p3 p4 hok HAll HAllI
        have hA0 : (wr.alloc (.cells #[.int .i64 n, .int .i64 l, .string lo, .string hi] 45)).heap[wr.heap.size]? = some (.cells #[.int .i64 n, .int .i64 l, .string lo, .string hi] 45 (0, 0)) := World.heap_alloc_new _ _
        obtain ⟨a0, a1, a2, a3⟩ := four_cells hA0
        have hba : Below w.heap.size w (wr.alloc (.cells #[.int .i64 n, .int .i64 l, .string lo, .string hi] 45)) := hb.alloc hbs _
        have hPa : (wr.alloc (.cells #[.int .i64 n, .int .i64 l, .string lo, .string hi] 45)).heap[w.heap.size]? = some (.cells #[.slice (some ⟨b, off, none⟩) xs.length ca, .slice d ks.length cd, .int .i64 lg, .int .i64 nx, .int .i64 la] 68 (0, 0)) := by rw [Below.heap_alloc _ _ _ hltP]; exact hP
        have hla : wr.heap.size < (wr.alloc (.cells #[.int .i64 n, .int .i64 l, .string lo, .string hi] 45)).heap.size := by simp
        have g1 : ¬ 9223372036854775807 < S.size + t1.size := by omega
        have g2 : ¬ 9223372036854775807 < S.size + t1.size + t2.size := by omega
        have g3 : ¬ 9223372036854775807 < S.size + t1.size + t2.size + t3.size := by omega
        have g4 : ¬ 9223372036854775807 < S.size + t1.size + t2.size + t3.size + t4.size := by omega
        have HBa := hd hba
        have HPa := hd hPa
        clear hba hPa hA0
        go_wp2_with fail
        go_region_held3 (fun w' => w'.cell? ⟨wr.heap.size, 0, none⟩ = some (.int .i64 n) ∧ w'.cell? ⟨wr.heap.size, 1, none⟩ = some (.int .i64 l) ∧ w'.cell? ⟨wr.heap.size, 2, none⟩ = some (.string lo) ∧ w'.cell? ⟨wr.heap.size, 3, none⟩ = some (.string hi)) (simp [go_sem, *])
          (first
            | (go_at_call 75; have _t := hb5; refine (HP2.out _).mono ?_; rintro e w6 ⟨rfl, hb6⟩; have m0 := (hb6.cell (p := ⟨wr.heap.size, _, none⟩) hl5).trans k0; have m1 := (hb6.cell (p := ⟨wr.heap.size, _, none⟩) hl5).trans k1; have m2 := (hb6.cell (p := ⟨wr.heap.size, _, none⟩) hl5).trans k2; have m3 := (hb6.cell (p := ⟨wr.heap.size, _, none⟩) hl5).trans k3; have hl6 := Nat.lt_of_lt_of_le hl5 hb6.size; have HP6 := hd ((hb6.block w.heap.size (heap_lt HP5.out)).trans HP5.out); have HB6 := hd (HB5.out.trans (hb6.mono HB5.out.size)); clear _t hb6)
            | (go_at_call 75; refine (HP1.out _).mono ?_; rintro e w5 ⟨rfl, hb5⟩; have k0 := (hb5.cell (p := ⟨wr.heap.size, _, none⟩) hla).trans a0; have k1 := (hb5.cell (p := ⟨wr.heap.size, _, none⟩) hla).trans a1; have k2 := (hb5.cell (p := ⟨wr.heap.size, _, none⟩) hla).trans a2; have k3 := (hb5.cell (p := ⟨wr.heap.size, _, none⟩) hla).trans a3; have hl5 := Nat.lt_of_lt_of_le hla hb5.size; have HP5 := hd ((hb5.block w.heap.size (heap_lt HPa.out)).trans HPa.out); have HB5 := hd (HBa.out.drew.trans (hb5.mono HBa.out.size)))
            | (go_at_call 76; have _t := HB7; refine (HP4.out _).mono ?_; rintro e w8 ⟨rfl, hb8⟩; have s0 := (hb8.cell (p := ⟨wr.heap.size, _, none⟩) hl7).trans n0; have s1' := (hb8.cell (p := ⟨wr.heap.size, _, none⟩) hl7).trans n1; have s2' := (hb8.cell (p := ⟨wr.heap.size, _, none⟩) hl7).trans n2; have s3' := (hb8.cell (p := ⟨wr.heap.size, _, none⟩) hl7).trans n3; have HP8 := hd ((hb8.block w.heap.size (heap_lt HP7.out)).trans HP7.out); have HB8 := hd (HB7.out.trans (hb8.mono HB7.out.size)); clear _t hb8)
            | (go_at_call 76; refine (HP3.out _).mono ?_; rintro e w7 ⟨rfl, hb7⟩; have n0 := (hb7.cell (p := ⟨wr.heap.size, _, none⟩) hl6).trans m0; have n1 := (hb7.cell (p := ⟨wr.heap.size, _, none⟩) hl6).trans m1; have n2 := (hb7.cell (p := ⟨wr.heap.size, _, none⟩) hl6).trans m2; have n3 := (hb7.cell (p := ⟨wr.heap.size, _, none⟩) hl6).trans m3; have hl7 := Nat.lt_of_lt_of_le hl6 hb7.size; have HP7 := hd ((hb7.block w.heap.size (heap_lt HP6.out)).trans HP6.out); have HB7 := hd (HB6.out.trans (hb7.mono HB6.out.size)); clear hb7))
        all_goals go_wp2_with fail
        all_goals rw [HEQ.out]
        all_goals exact ⟨⟨k + 1, by simp, by omega, by rw [HS'.out], HB8.out, HP8.out⟩, by simp only [intOf]; omega⟩
      · obtain rfl : k = xs.length := by omega
        rw [List.take_length]
        have hsz : (⟨(adB xs.length xs).toArray⟩ : ByteArray).size ≤ 2032008 := by
          rw [txtS]
          have := adB_len xs.length xs HAll.out
          omega
        have HEQ : Hid ((⟨(adB xs.length xs).toArray⟩ : ByteArray) ++ vtext (ks.length : Int) = ⟨(adB xs.length xs ++ vb ks.length ++ dlB (ks.take 0)).toArray⟩) := by
          show _ = _
          apply txt_ext
          rw [appL, vtext_in _ (by omega) (by omega)]
          simp [dlB]
        have HSZ : Hid (∀ k, (⟨(adB xs.length xs ++ vb ks.length ++ dlB (ks.take k)).toArray⟩ : ByteArray).size ≤ 2040016) := fun k => by
          rw [txtS] at hsz ⊢
          have h1 := vb_len ks.length
          have h2 := dlB_len (ks.take k)
          rw [List.length_take] at h2
          simp only [List.length_append]
          omega
        have s1 : (vtext (ks.length : Int)).size ≤ 8 := vtext_size _
        have HP1 := hd (specPut_any (ks.length : Int))
        have HAX : Hid (adB xs.length xs = adB xs.length xs) := rfl
        generalize hS0 : (⟨(adB xs.length xs).toArray⟩ : ByteArray) = S0 at *
        clear hS0 HAX
        have HPu := hd hP
        generalize vtext (ks.length : Int) = t1 at *
        have g1 : ¬ 9223372036854775807 < S0.size + t1.size := by omega
        go_wp2_with fail
        refine (HP1.out _).mono ?_
        rintro r w3 ⟨rfl, hb3⟩
        have hP3 := (hb3.block w.heap.size hltP).trans hP
        have hbw3 : Below w.heap.size w w3 := hb.trans (hb3.mono hb.size)
        clear x0 x1 x2 x3 x4 hP hb hb3 hltP hbs hlt hk
        go_wp2_with fail
        generalize S0 ++ t1 = S1 at *
        go_loopw [3, 6] (fun s y wr => ∃ k : Nat, y = .int .i64 k ∧ k ≤ ks.length ∧ s = .string ⟨(adB xs.length xs ++ vb ks.length ++ dlB (ks.take k)).toArray⟩ ∧ Below w.heap.size w wr ∧ wr.heap[w.heap.size]? = some (.cells #[.slice a xs.length ca, .slice d ks.length cd, .int .i64 lg, .int .i64 nx, .int .i64 la] 68 (0, 0))) (fun _ y _ => ks.length - (intOf y).toNat)
        case atStart => exact ⟨0, rfl, by omega, by rw [HEQ.out], hbw3, hP3⟩
        case round =>
          clear hP3 hbw3 HEQ g1 HP1 s1 hsz
          obtain ⟨k, rfl, hk, rfl, hb, hP⟩ := hrel
          have hbs := hb.size
          obtain ⟨x0, x1, x2, x3, x4⟩ := five_cells hP
          have hltP := heap_lt hP
          by_cases hlt : k < ks.length
          · obtain ⟨b, off, rfl, hbl, c0⟩ := (hy.below hb).at hlt
            have hik : (k : Int) < (ks.length : Int) := by omega
            have hok : numOk (ks.getD k 0) = true := by
              have e : ks.getD k 0 = ks[k] := by simp [List.getD, hlt]
              rw [e]
              exact List.all_eq_true.1 HAllI.out _ (List.getElem_mem hlt)
            have p1 := (numOk_iff _).1 hok
            have HEQ : Hid ((⟨(adB xs.length xs ++ vb ks.length ++ dlB (ks.take k)).toArray⟩ : ByteArray) ++ vtext (ks.getD k 0) = ⟨(adB xs.length xs ++ vb ks.length ++ dlB (ks.take (k + 1))).toArray⟩) := by
              show _ = _
              apply txt_ext
              rw [appL, vtext_in _ (by omega) (by omega), takeI_snoc ks k hlt, dlB_snoc, textL, textL, textL]
              simp only [List.append_assoc]
            have hsz := HSZ.out k
            have s1 : (vtext (ks.getD k 0)).size ≤ 8 := vtext_size _
            have HP1 := hd (specPut_any (ks.getD k 0))
            generalize (⟨(adB xs.length xs ++ vb ks.length ++ dlB (ks.take k)).toArray⟩ : ByteArray) = S at *
            generalize hS' : (⟨(adB xs.length xs ++ vb ks.length ++ dlB (ks.take (k + 1))).toArray⟩ : ByteArray) = S' at *
            have HS' := hd hS'
            clear hS'
            generalize vtext (ks.getD k 0) = t1 at *
            generalize ks.getD k 0 = f at *
            clear p1 hok HAll HAllI
            have g1 : ¬ 9223372036854775807 < S.size + t1.size := by omega
            go_wp2_with fail
            refine (HP1.out _).mono ?_
            rintro r w3 ⟨rfl, hb3⟩
            have hP3 := (hb3.block w.heap.size hltP).trans hP
            have hbw3 : Below w.heap.size w w3 := hb.trans (hb3.mono hb.size)
            go_wp2_with fail
            go_roundw
            case rel =>
              exact ⟨k + 1, by go_num, by omega, by rw [HEQ.out, ← HS'.out], hbw3, hP3⟩
            case measure => simp [intOf]; omega
          · obtain rfl : k = ks.length := by omega
            rw [List.take_length]
            have hsz := HSZ.out ks.length
            rw [List.take_length] at hsz
            have HEQ : Hid ((⟨(adB xs.length xs ++ vb ks.length ++ dlB ks).toArray⟩ : ByteArray) ++ vtext lg ++ vtext nx ++ vtext la = ⟨EB.toArray⟩) := by
              show _ = _
              have h1 := HLG.out
              have h2 := HNX.out
              apply txt_ext
              rw [HB.out, appL, appL, appL, vtext_in _ (by omega) (by omega), vtext_in _ (by omega) (by omega), vtext_in _ (by omega) (by omega)]
            have s1 : (vtext lg).size ≤ 8 := vtext_size _
            have s2 : (vtext nx).size ≤ 8 := vtext_size _
            have s3 : (vtext la).size ≤ 8 := vtext_size _
            have HP1 := hd (specPut_any lg)
            have HP2 := hd (specPut_any nx)
            have HP3 := hd (specPut_any la)
            generalize (⟨(adB xs.length xs ++ vb ks.length ++ dlB ks).toArray⟩ : ByteArray) = S at *
            generalize vtext lg = t1 at *
            generalize vtext nx = t2 at *
            generalize vtext la = t3 at *
            have g1 : ¬ 9223372036854775807 < S.size + t1.size := by omega
            have g2 : ¬ 9223372036854775807 < S.size + t1.size + t2.size := by omega
            have g3 : ¬ 9223372036854775807 < S.size + t1.size + t2.size + t3.size := by omega
            have HBu := hd hb
            clear hb hbs HAll HAllI
            go_wp2_with fail
            go_region_held3 (fun w' => w'.cell? ⟨w.heap.size, 2, none⟩ = some (.int .i64 lg) ∧ w'.cell? ⟨w.heap.size, 3, none⟩ = some (.int .i64 nx) ∧ w'.cell? ⟨w.heap.size, 4, none⟩ = some (.int .i64 la)) (simp [go_sem, *])
              (first
                | (go_at_call 75; have _t := HB6; refine (HP3.out _).mono ?_; rintro e w7 ⟨rfl, hb7⟩; have n2 := (hb7.cell (p := ⟨w.heap.size, _, none⟩) hl6).trans m2; have n3 := (hb7.cell (p := ⟨w.heap.size, _, none⟩) hl6).trans m3; have n4 := (hb7.cell (p := ⟨w.heap.size, _, none⟩) hl6).trans m4; have HB7 := hd (HB6.out.trans (hb7.mono HB6.out.size)); clear _t hb7)
                | (go_at_call 75; have _t := HB5; refine (HP2.out _).mono ?_; rintro e w6 ⟨rfl, hb6⟩; have m2 := (hb6.cell (p := ⟨w.heap.size, _, none⟩) hl5).trans k2; have m3 := (hb6.cell (p := ⟨w.heap.size, _, none⟩) hl5).trans k3; have m4 := (hb6.cell (p := ⟨w.heap.size, _, none⟩) hl5).trans k4; have hl6 := Nat.lt_of_lt_of_le hl5 hb6.size; have HB6 := hd (HB5.out.trans (hb6.mono HB5.out.size)); clear _t hb6)
                | (go_at_call 75; refine (HP1.out _).mono ?_; rintro e w5 ⟨rfl, hb5⟩; have k2 := (hb5.cell (p := ⟨w.heap.size, _, none⟩) hltP).trans x2; have k3 := (hb5.cell (p := ⟨w.heap.size, _, none⟩) hltP).trans x3; have k4 := (hb5.cell (p := ⟨w.heap.size, _, none⟩) hltP).trans x4; have hl5 := Nat.lt_of_lt_of_le hltP hb5.size; have HB5 := hd (HBu.out.drew.trans (hb5.mono HBu.out.size)); clear hb5))
            all_goals go_wp2_with fail
            all_goals go_ret
            all_goals exact ⟨by rw [← HEQ.out]; rfl, HB7.out⟩
end Go.Proofs.YtphikgobdfknkaaGreatDoor
