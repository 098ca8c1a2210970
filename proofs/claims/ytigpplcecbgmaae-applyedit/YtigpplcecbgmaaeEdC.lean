
import Derived.Test.YtigpplcecbgmaaeEdB
namespace Go.Proofs.Ytigpplcecbgmaae
open Go.RowKit Go.Maps
set_option linter.unusedVariables false
set_option linter.unusedSimpArgs false

set_option maxRecDepth 100000 in
set_option maxHeartbeats 2000000 in
theorem implEdit_any (a : Option Addr) (ca : Nat) (d : Option Addr) (cd : Nat) (e : Ed) (w : World) (hx : LieT w a e.ad) (hf : FitsT e.ad) (hy : LieI w d e.dl) (hl1 : e.ad.length ≤ 1048576) (hl2 : e.dl.length ≤ 1048576) :
    Calls Try.prog 24 #[edV a ca d cd e] w fun r w' => r = .returned (.bool (edOk e)) ∧ Below w.heap.size w w' := by
  obtain ⟨xs, ks, lg, nx, la⟩ := e
  dsimp only at hx hf hy hl1 hl2
  have HF := hd (fun h => edOk_no (e := ⟨xs, ks, lg, nx, la⟩) h)
  have HT := hd ((edOk_iff ⟨xs, ks, lg, nx, la⟩).2)
  dsimp only at HF HT
  generalize edOk ⟨xs, ks, lg, nx, la⟩ = E at *
  have hP0 : (w.alloc (.cells #[.slice a xs.length ca, .slice d ks.length cd, .int .i64 lg, .int .i64 nx, .int .i64 la] 25)).heap[w.heap.size]? = some (.cells #[.slice a xs.length ca, .slice d ks.length cd, .int .i64 lg, .int .i64 nx, .int .i64 la] 25 (0, 0)) := World.heap_alloc_new _ _
  have hb0 : Below w.heap.size w (w.alloc (.cells #[.slice a xs.length ca, .slice d ks.length cd, .int .i64 lg, .int .i64 nx, .int .i64 la] 25)) := (Below.refl _ _).alloc (Nat.le_refl _) _
  have hx0 := hx.below hb0
  by_cases h1 : (xs.length : Int) ≤ 1000
  · go_enter Try.func24, Try.ntmps24
    go_wp2_with fail
    refine (allRefs_any a ca xs _ hx0 hf hl1).mono ?_
    rintro r w1 ⟨rfl, hb1⟩
    have hP1 := (hb1.block w.heap.size (by simp)).trans hP0
    have hb : Below w.heap.size w w1 := hb0.trans (hb1.mono hb0.size)
    obtain ⟨x0, x1, x2, x3, x4⟩ := five_cells hP1
    have hlt1 := heap_lt hP1
    have hy1 := hy.below hb
    clear hP0 hb0 hb1 hx0 hx hf hy
    cases ha : xs.all refOk with
    | false =>
      have hE := HF.out (fun h => by rw [ha] at h; exact absurd h.2.1 (by simp))
      subst hE
      go_wp2_with fail
      go_ret
      exact ⟨rfl, hb⟩
    | true =>
      by_cases h2 : (ks.length : Int) ≤ 1000
      · go_wp2_with fail
        refine (allNums_any d cd ks _ hy1 hl2).mono ?_
        rintro r w2 ⟨rfl, hb2⟩
        have hP2 := (hb2.block w.heap.size hlt1).trans hP1
        have hbw2 : Below w.heap.size w w2 := hb.trans (hb2.mono hb.size)
        obtain ⟨y0, y1, y2, y3, y4⟩ := five_cells hP2
        have hlt2 := heap_lt hP2
        clear hP1 hb hb2 x0 x1 x2 x3 x4 hy1
        cases hk : ks.all numOk with
        | false =>
          have hE := HF.out (fun h => by rw [hk] at h; exact absurd h.2.2.2.1 (by simp))
          subst hE
          go_wp2_with fail
          go_ret
          exact ⟨rfl, hbw2⟩
        | true =>
          go_wp2_with fail
          refine (implNum_any lg _).mono ?_
          rintro r w3 ⟨rfl, hb3⟩
          have hP3 := (hb3.block w.heap.size hlt2).trans hP2
          have hbw3 : Below w.heap.size w w3 := hbw2.trans (hb3.mono hbw2.size)
          obtain ⟨x0, x1, x2, x3, x4⟩ := five_cells hP3
          have hlt3 := heap_lt hP3
          clear hP2 hbw2 hb3 y0 y1 y2 y3 y4
          cases hg : numOk lg with
          | false =>
            have hE := HF.out (fun h => by rw [hg] at h; exact absurd h.2.2.2.2.1 (by simp))
            subst hE
            go_wp2_with fail
            go_ret
            exact ⟨rfl, hbw3⟩
          | true =>
            go_wp2_with fail
            refine (implNum_any nx _).mono ?_
            rintro r w4 ⟨rfl, hb4⟩
            have hP4 := (hb4.block w.heap.size hlt3).trans hP3
            have hbw4 : Below w.heap.size w w4 := hbw3.trans (hb4.mono hbw3.size)
            obtain ⟨y0, y1, y2, y3, y4⟩ := five_cells hP4
            have hlt4 := heap_lt hP4
            clear hP3 hbw3 hb4 x0 x1 x2 x3 x4
            cases hn : numOk nx with
            | false =>
              have hE := HF.out (fun h => by rw [hn] at h; exact absurd h.2.2.2.2.2.1 (by simp))
              subst hE
              go_wp2_with fail
              go_ret
              exact ⟨rfl, hbw4⟩
            | true =>
              by_cases hla : 0 ≤ la
              · by_cases hlb : la ≤ 72057594037927935
                · have hE := HT.out ⟨by omega, ha, by omega, hk, hg, hn, hla, hlb⟩
                  subst hE
                  go_wp2_with fail
                  go_ret
                  exact ⟨rfl, hbw4⟩
                · have hE := HF.out (fun h => by omega)
                  subst hE
                  go_wp2_with fail
                  go_ret
                  exact ⟨ret_bool (decide_eq_false (by omega)), hbw4⟩
              · have hE := HF.out (fun h => by omega)
                subst hE
                go_wp2_with fail
                go_ret
                exact ⟨rfl, hbw4⟩
      · have hE := HF.out (fun h => by omega)
        subst hE
        go_wp2_with fail
        go_ret
        exact ⟨rfl, hb⟩
  · have hE := HF.out (fun h => by omega)
    subst hE
    go_enter Try.func24, Try.ntmps24
    go_wp2_with fail
    go_ret
    exact ⟨rfl, hb0⟩

set_option maxRecDepth 100000 in
set_option maxHeartbeats 2000000 in
theorem specEdit_any (a : Option Addr) (ca : Nat) (d : Option Addr) (cd : Nat) (e : Ed) (w : World) (hx : LieT w a e.ad) (hf : FitsT e.ad) (hy : LieI w d e.dl) (hl1 : e.ad.length ≤ 1048576) (hl2 : e.dl.length ≤ 1048576) :
    Calls Try.prog 33 #[edV a ca d cd e] w fun r w' => r = .returned (.bool (edOk e)) ∧ Below w.heap.size w w' := by
  obtain ⟨xs, ks, lg, nx, la⟩ := e
  dsimp only at hx hf hy hl1 hl2
  have HF := hd (fun h => edOk_no (e := ⟨xs, ks, lg, nx, la⟩) h)
  have HT := hd ((edOk_iff ⟨xs, ks, lg, nx, la⟩).2)
  dsimp only at HF HT
  generalize edOk ⟨xs, ks, lg, nx, la⟩ = E at *
  have hP0 : (w.alloc (.cells #[.slice a xs.length ca, .slice d ks.length cd, .int .i64 lg, .int .i64 nx, .int .i64 la] 25)).heap[w.heap.size]? = some (.cells #[.slice a xs.length ca, .slice d ks.length cd, .int .i64 lg, .int .i64 nx, .int .i64 la] 25 (0, 0)) := World.heap_alloc_new _ _
  have hb0 : Below w.heap.size w (w.alloc (.cells #[.slice a xs.length ca, .slice d ks.length cd, .int .i64 lg, .int .i64 nx, .int .i64 la] 25)) := (Below.refl _ _).alloc (Nat.le_refl _) _
  by_cases h1 : (1000 : Int) < xs.length
  · have hE := HF.out (fun h => by omega)
    subst hE
    go_enter Try.func33, Try.ntmps33
    go_wp2_with fail
    go_ret
    exact ⟨rfl, hb0⟩
  by_cases h2 : (1000 : Int) < ks.length
  · have hE := HF.out (fun h => by omega)
    subst hE
    go_enter Try.func33, Try.ntmps33
    go_wp2_with fail
    go_ret
    exact ⟨rfl, hb0⟩
  go_enter Try.func33, Try.ntmps33
  go_wp2_with fail
  refine (specNum_any lg _).mono ?_
  rintro r w1 ⟨rfl, hb1⟩
  have hP1 := (hb1.block w.heap.size (by simp)).trans hP0
  have hb : Below w.heap.size w w1 := hb0.trans (hb1.mono hb0.size)
  obtain ⟨x0, x1, x2, x3, x4⟩ := five_cells hP1
  have hlt1 := heap_lt hP1
  clear hP0 hb0 hb1
  cases hg : numOk lg with
  | false =>
    have hE := HF.out (fun h => by rw [hg] at h; exact absurd h.2.2.2.2.1 (by simp))
    subst hE
    go_wp2_with fail
    go_ret
    exact ⟨rfl, hb⟩
  | true =>
    go_wp2_with fail
    refine (specNum_any nx _).mono ?_
    rintro r w2 ⟨rfl, hb2⟩
    have hP2 := (hb2.block w.heap.size hlt1).trans hP1
    have hbw2 : Below w.heap.size w w2 := hb.trans (hb2.mono hb.size)
    obtain ⟨y0, y1, y2, y3, y4⟩ := five_cells hP2
    have hlt2 := heap_lt hP2
    clear hP1 hb hb2 x0 x1 x2 x3 x4
    cases hn : numOk nx with
    | false =>
      have hE := HF.out (fun h => by rw [hn] at h; exact absurd h.2.2.2.2.2.1 (by simp))
      subst hE
      go_wp2_with fail
      go_ret
      exact ⟨rfl, hbw2⟩
    | true =>
      go_wp2_with fail
      go_loopw [3] (fun y wr => ∃ k : Nat, y = .int .i64 k ∧ k ≤ xs.length ∧ (xs.take k).all refOk = true ∧ Below w.heap.size w wr ∧ wr.heap[w.heap.size]? = some (.cells #[.slice a xs.length ca, .slice d ks.length cd, .int .i64 lg, .int .i64 nx, .int .i64 la] 25 (0, 0))) (fun y _ => xs.length - (intOf y).toNat)
      case atStart => exact ⟨0, rfl, by omega, rfl, hbw2, hP2⟩
      case round =>
        clear hP2 hbw2 y0 y1 y2 y3 y4 hlt1 hlt2
        obtain ⟨k, rfl, hk, hall, hb, hP⟩ := hrel
        have hbs := hb.size
        obtain ⟨x0, x1, x2, x3, x4⟩ := five_cells hP
        have hltP := heap_lt hP
        by_cases hlt : k < xs.length
        · obtain ⟨b, off, rfl, hbl, c0, c1, c2, c3⟩ := (hx.below hb).at hlt
          have hfk := hf.at hlt
          have hik : (k : Int) < (xs.length : Int) := by omega
          have HB := hd (fun h => all_at hlt h)
          have HA : Hid (refOk (xs.getD k tr0) = true → (xs.take (k + 1)).all refOk = true) := fun h => by rw [takeT_snoc xs k hlt, List.all_append, hall]; simpa using h
          generalize xs.getD k tr0 = f at *
          go_wp2_with fail
          refine (specRef_any f _ hfk.1 hfk.2).mono ?_
          rintro e w3 ⟨rfl, hb3⟩
          have hbw3 : Below w.heap.size w w3 := hb.trans (hb3.mono hb.size)
          have hP3 := (hb3.block w.heap.size hltP).trans hP
          cases hok : refOk f with
          | false =>
            have hE := HF.out (fun h => by rw [HB.out hok] at h; exact absurd h.2.1 (by simp))
            subst hE
            go_wp2_with fail
            go_ret
            exact ⟨rfl, hbw3⟩
          | true =>
            have hAll := HA.out hok
            go_wp2_with fail
            exact ⟨⟨k + 1, by simp, by omega, hAll, hbw3, hP3⟩, by simp only [intOf]; omega⟩
        · obtain rfl : k = xs.length := by omega
          rw [List.take_length] at hall
          have ha := hd hall
          clear hall
          go_wp2_with fail
          go_loopw [4] (fun y wr => ∃ k : Nat, y = .int .i64 k ∧ k ≤ ks.length ∧ (ks.take k).all numOk = true ∧ Below w.heap.size w wr ∧ wr.heap[w.heap.size]? = some (.cells #[.slice a xs.length ca, .slice d ks.length cd, .int .i64 lg, .int .i64 nx, .int .i64 la] 25 (0, 0))) (fun y _ => ks.length - (intOf y).toNat)
          case atStart => exact ⟨0, rfl, by omega, rfl, hb, hP⟩
          case round =>
            clear hP hb x0 x1 x2 x3 x4 hltP hbs hlt hk
            obtain ⟨k, rfl, hk, hall, hb, hP⟩ := hrel
            have hbs := hb.size
            obtain ⟨x0, x1, x2, x3, x4⟩ := five_cells hP
            have hltP := heap_lt hP
            by_cases hlt : k < ks.length
            · obtain ⟨b, off, rfl, hbl, c0⟩ := (hy.below hb).at hlt
              have hik : (k : Int) < (ks.length : Int) := by omega
              have HB := hd (fun h => allI_at hlt h)
              have HA : Hid (numOk (ks.getD k 0) = true → (ks.take (k + 1)).all numOk = true) := fun h => by rw [takeI_snoc ks k hlt, List.all_append, hall]; simpa using h
              generalize ks.getD k 0 = f at *
              go_wp2_with fail
              refine (specNum_any f _).mono ?_
              rintro e w3 ⟨rfl, hb3⟩
              have hbw3 : Below w.heap.size w w3 := hb.trans (hb3.mono hb.size)
              have hP3 := (hb3.block w.heap.size hltP).trans hP
              cases hok : numOk f with
              | false =>
                have hE := HF.out (fun h => by rw [HB.out hok] at h; exact absurd h.2.2.2.1 (by simp))
                subst hE
                go_wp2_with fail
                go_ret
                exact ⟨rfl, hbw3⟩
              | true =>
                have hAll := HA.out hok
                go_wp2_with fail
                exact ⟨⟨k + 1, by simp, by omega, hAll, hbw3, hP3⟩, by simp only [intOf]; omega⟩
            · obtain rfl : k = ks.length := by omega
              rw [List.take_length] at hall
              have hz : ¬ 0 ≤ la ∨ (0 ≤ la ∧ ¬ la ≤ 72057594037927935) ∨ (0 ≤ la ∧ la ≤ 72057594037927935) := by omega
              rcases hz with z1 | ⟨z1, z2⟩ | ⟨z1, z2⟩
              · have hE := HF.out (fun h => by omega)
                subst hE
                go_wp2_with fail
                go_ret
                exact ⟨rfl, hb⟩
              · have hE := HF.out (fun h => by omega)
                subst hE
                go_wp2_with fail
                go_ret
                exact ⟨by simp [z2], hb⟩
              · have hE := HT.out ⟨by omega, ha.out, by omega, hall, hg, hn, z1, z2⟩
                subst hE
                go_wp2_with fail
                go_ret
                exact ⟨by simp [z2], hb⟩
end Go.Proofs.Ytigpplcecbgmaae
