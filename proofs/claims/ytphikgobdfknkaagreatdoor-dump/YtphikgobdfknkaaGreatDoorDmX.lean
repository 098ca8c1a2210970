import Derived.Test.YtphikgobdfknkaaGreatDoorRmI
import Derived.Deep.RegionHeld3
namespace Go.Proofs.YtphikgobdfknkaaGreatDoor
open Go.RowKit Go.Maps
set_option linter.unusedVariables false
set_option linter.unusedSimpArgs false

/-- A number of 64 bits. -/
def I64 (n : Int) : Prop := -9223372036854775808 ≤ n ∧ n ≤ 9223372036854775807
theorem itB_size {n : Int} (h : I64 n) : (itB n).size ≤ 21 := by
  obtain ⟨h1, h2⟩ := h
  by_cases hn : n < 0
  · obtain ⟨u, rfl⟩ : ∃ u : Nat, n = -(u : Int) := ⟨n.natAbs, by omega⟩
    have := dgB_size u (by omega)
    show (Lib.itoa (-(u : Int))).toArray.size ≤ 21
    rw [Lib.itoa_neg u (by omega), List.size_toArray, List.length_cons]
    have e : (Lib.decDigits u).length = (dgB u).size := by show _ = (Lib.decDigits u).toArray.size; rw [List.size_toArray]
    omega
  · obtain ⟨u, rfl⟩ : ∃ u : Nat, n = (u : Int) := ⟨n.toNat, by omega⟩
    rw [itB_nat]
    have := dgB_size u (by omega)
    omega
/-- A table's name. -/
def tnB (n : Int) : ByteArray := itB n ++ ⟨#[46, 115, 115, 116]⟩
/-- The first half of a table's line. -/
def lnA (t : Tr) : ByteArray := ⟨#[116, 97, 98, 108, 101, 32]⟩ ++ itB t.nu ++ ⟨#[32, 108, 101, 118, 101, 108, 32]⟩ ++ itB t.lv
/-- A table's line. -/
def lnB (m : List UInt8 → Option (ByteArray × Int)) (t : Tr) : ByteArray := match m (tnB t.nu).data.toList with
  | some x => lnA t ++ ⟨#[32, 115, 105, 122, 101, 32]⟩ ++ itB (x.1.size : Nat) ++ ⟨#[10]⟩
  | none => lnA t ++ ⟨#[32, 109, 105, 115, 115, 105, 110, 103, 10]⟩
set_option maxRecDepth 100000 in
set_option maxHeartbeats 1000000 in
theorem tableName_any (n : Int) (h : I64 n) (w : World) (hv : VarsN w) :
    Calls Tryz.prog 69 #[.int .i64 n] w fun e w' => e = .returned (.string (tnB n)) ∧ Below w.heap.size w w' := by
  have HT := hdN (itoaN n h.1 h.2 w hv)
  have hsz := itB_size h
  have u1 : ¬ 9223372036854775807 < (itB n).size + 4 := by omega
  go_enter Tryz.func69, Tryz.ntmps69
  go_wp2_with fail
  refine HT.out.mono ?_
  rintro e w1 ⟨rfl, hb1⟩
  go_wp2_with fail
  go_ret
  exact ⟨rfl, hb1⟩
theorem four_cellsD {w : World} {p : Nat} {t : TypeId} {x0 x1 x2 x3 : Value} (h : w.heap[p]? = some (.cells #[x0, x1, x2, x3] t (0, 0))) : w.cell? ⟨p, 0, none⟩ = some x0 ∧ w.cell? ⟨p, 1, none⟩ = some x1 ∧ w.cell? ⟨p, 2, none⟩ = some x2 ∧ w.cell? ⟨p, 3, none⟩ = some x3 := by
  refine ⟨?_, ?_, ?_, ?_⟩ <;> simp [World.cell?, h]
set_option maxRecDepth 100000 in
set_option maxHeartbeats 4000000 in
theorem dumpTable_any (g mb c : Nat) (q fu : Int) (m : List UInt8 → Option (ByteArray × Int)) (t : Tr) (w : World) (hn : I64 t.nu) (hl : I64 t.lv) (hobj : w.heap[g]? = some (.cells (dirC mb q fu) 88 (0, 0))) (hdir : Dir w mb c m) (hne : g ≠ mb) (hm : ∀ l x, m l = some x → x.1.size ≤ 1048576) (hv : VarsN w) :
    Calls Tryz.prog 41 #[.pointer (some ⟨g, 0, none⟩), .agg #[.int .i64 t.nu, .int .i64 t.lv, .string t.lo, .string t.hi]] w fun e w' => e = .returned (.string (lnB m t)) ∧ Below w.heap.size w w' := by
  have hb0 : Below w.heap.size w (w.alloc (.cells #[.int .i64 t.nu, .int .i64 t.lv, .string t.lo, .string t.hi] 45)) := (Below.refl _ _).alloc (Nat.le_refl _) _
  have hV0 : (w.alloc (.cells #[.int .i64 t.nu, .int .i64 t.lv, .string t.lo, .string t.hi] 45)).heap[w.heap.size]? = some (.cells #[.int .i64 t.nu, .int .i64 t.lv, .string t.lo, .string t.hi] 45 (0, 0)) := World.heap_alloc_new _ _
  have HT := hdN (fun (n : Int) (h : I64 n) (w' : World) (hb : Below w.heap.size w w') => itoaN n h.1 h.2 w' (hv.below hb))
  have HNm := hdN (fun (w' : World) (hb : Below w.heap.size w w') => tableName_any t.nu hn w' (hv.below hb))
  have hglt := heap_ltN hobj
  have hmlt := hdir.lt
  have hz1 := itB_size hn
  have hz2 := itB_size hl
  have hz3 : (tnB t.nu).size ≤ maxLen := by unfold tnB maxLen; rw [ByteArray.size_append]; show (itB t.nu).size + 4 ≤ _; omega
  have HF := hdN (fun (w' : World) (hb : Below w.heap.size w w') => find_any g mb c q fu m (tnB t.nu) w' hz3 ((hb.block g hglt).trans hobj) (hdir.below hb hmlt) hne)
  have HLn : Hid (lnB m t = match m (tnB t.nu).data.toList with
    | some x => lnA t ++ ⟨#[32, 115, 105, 122, 101, 32]⟩ ++ itB (x.1.size : Nat) ++ ⟨#[10]⟩
    | none => lnA t ++ ⟨#[32, 109, 105, 115, 115, 105, 110, 103, 10]⟩) := rfl
  have HLa : Hid (lnA t = ⟨#[116, 97, 98, 108, 101, 32]⟩ ++ itB t.nu ++ ⟨#[32, 108, 101, 118, 101, 108, 32]⟩ ++ itB t.lv) := rfl
  generalize lnB m t = LN at *
  generalize lnA t = LA at *
  have HMx : Hid (∀ x, m (tnB t.nu).data.toList = some x → x.1.size ≤ 1048576) := fun x h => hm _ x h
  generalize m (tnB t.nu).data.toList = fx at *
  generalize tnB t.nu = tn at *
  obtain ⟨nu, lv, lo, hi⟩ := t
  dsimp only at *
  clear hm hdir hobj hv
  obtain ⟨y0, y1, y2, y3⟩ := four_cellsD hV0
  generalize hW0 : w.alloc (.cells #[.int .i64 nu, .int .i64 lv, .string lo, .string hi] 45) = W0 at *
  have HI1 := hdN (HT.out nu hn W0.drew hb0.drew)
  have hlt0 := heap_ltN hV0
  have u1 : ¬ 9223372036854775807 < 6 + (itB nu).size := by omega
  have u2 : ¬ 9223372036854775807 < 6 + (itB nu).size + 7 := by omega
  have u3 : ¬ 9223372036854775807 < 6 + (itB nu).size + 7 + (itB lv).size := by omega
  have HW0 := hdN hW0
  clear hW0
  go_enter Tryz.func41, Tryz.ntmps41
  go_wp2_with fail
  rw [HW0.out]
  clear HW0
  go_region_held3 (fun w' => w'.cell? ⟨w.heap.size, 0, none⟩ = some (.int .i64 nu) ∧ w'.cell? ⟨w.heap.size, 1, none⟩ = some (.int .i64 lv)) (simp [go_sem, *])
    (first | (go_at_call 40; refine HI1.out.mono ?_; rintro r w1 ⟨rfl, hb1⟩; have hb01 : Below W0.heap.size W0 w1 := ((Below.refl _ W0).drew).trans hb1; have k0 := (hb01.cell (p := ⟨w.heap.size, _, none⟩) hlt0).trans y0; have k1 := (hb01.cell (p := ⟨w.heap.size, _, none⟩) hlt0).trans y1; have HB01 := hdN hb01; have HBw1 := hdN (hb0.trans (hb01.mono hb0.size)); clear hb1 hb01) | (go_at_call 40; refine (HT.out lv hl _ HBw1.out).mono ?_; rintro r w2 ⟨rfl, hb2⟩; have hb02 : Below W0.heap.size W0 w2 := HB01.out.trans (hb2.mono HB01.out.size); have j0 := (hb02.cell (p := ⟨w.heap.size, _, none⟩) hlt0).trans y0; have j1 := (hb02.cell (p := ⟨w.heap.size, _, none⟩) hlt0).trans y1; have HB02 := hdN hb02; have HBw2 := hdN (HBw1.out.trans (hb2.mono HBw1.out.size)); clear hb2 hb02))
  all_goals
    rw [← HLa.out]
    have hla : LA.size ≤ 55 := by rw [HLa.out]; simp only [ByteArray.size_append]; show 6 + (itB nu).size + 7 + (itB lv).size ≤ 55; omega
    clear HLa u1 u2 u3 k0 k1 y0 y1 y2 y3 HI1 HB01 HBw1 hb0 hz1 hz2
    go_wp2_with fail
    refine (HNm.out _ HBw2.out).mono ?_
    rintro r w3 ⟨rfl, hb3⟩
    have HBw3 := hdN (HBw2.out.trans (hb3.mono HBw2.out.size))
    clear hb3 HBw2 HB02 j0 j1
    go_wp2_with fail
    refine (HF.out _ HBw3.out).mono ?_
    rintro r w4 ⟨rfl, hb4⟩
    have HBw4 := hdN (HBw3.out.trans (hb4.mono HBw3.out.size))
    clear hb4 HBw3
    cases fx with
    | none =>
      have hLN : LN = LA ++ ⟨#[32, 109, 105, 115, 115, 105, 110, 103, 10]⟩ := HLn.out
      subst hLN
      have u4 : ¬ 9223372036854775807 < LA.size + 9 := by omega
      go_wp2_with fail
      go_ret
      exact ⟨rfl, HBw4.out⟩
    | some x =>
      have hx := HMx.out x rfl
      have hLN : LN = LA ++ ⟨#[32, 115, 105, 122, 101, 32]⟩ ++ itB (x.1.size : Nat) ++ ⟨#[10]⟩ := HLn.out
      subst hLN
      have hI : I64 ((x.1.size : Nat) : Int) := ⟨by omega, by omega⟩
      have hz4 := itB_size hI
      have u4 : ¬ 9223372036854775807 < LA.size + 6 := by omega
      have u5 : ¬ 9223372036854775807 < LA.size + 6 + (itB ((x.1.size : Nat) : Int)).size := by omega
      have u6 : ¬ 9223372036854775807 < LA.size + 6 + (itB ((x.1.size : Nat) : Int)).size + 1 := by omega
      have HIx := hdN (fun w' hb => HT.out ((x.1.size : Nat) : Int) hI w' hb)
      go_wp2_with fail
      refine (HIx.out _ HBw4.out).mono ?_
      rintro r w5 ⟨rfl, hb5⟩
      have HBw5 := hdN (HBw4.out.trans (hb5.mono HBw4.out.size))
      go_wp2_with fail
      go_ret
      exact ⟨rfl, HBw5.out⟩
/-- The manifest that CURRENT names: its text; none if it names none that is there. -/
def curM (m : List UInt8 → Option (ByteArray × Int)) : Option ByteArray := match m ((m curB.data.toList).getD (ByteArray.empty, 0)).1.data.toList with
  | some x => if manN ((m curB.data.toList).getD (ByteArray.empty, 0)).1.data.toList ≠ 0 then some x.1 else none
  | none => none
set_option maxRecDepth 100000 in
set_option maxHeartbeats 4000000 in
theorem currentManifest_any (g mb c : Nat) (q fu : Int) (m : List UInt8 → Option (ByteArray × Int)) (w : World) (hobj : w.heap[g]? = some (.cells (dirC mb q fu) 88 (0, 0))) (hdir : Dir w mb c m) (hne : g ≠ mb) (hm : ∀ l x, m l = some x → x.1.size ≤ 1048576) (hv : VarsN w) :
    Calls Tryz.prog 19 #[.pointer (some ⟨g, 0, none⟩)] w fun e w' => (∃ nm, e = .returned (.tuple #[.string nm, .string ((curM m).getD ByteArray.empty), .bool (curM m).isSome])) ∧ Below w.heap.size w w' := by
  have hglt := heap_ltN hobj
  have hmlt := hdir.lt
  have HF := hdN (fun (s : ByteArray) (hs : s.size ≤ 1048576) (w' : World) (hb : Below w.heap.size w w') => find_any g mb c q fu m s w' (by unfold maxLen; omega) ((hb.block g hglt).trans hobj) (hdir.below hb hmlt) hne)
  have hcz : ((m curB.data.toList).getD (ByteArray.empty, 0)).1.size ≤ 1048576 := by
    cases h : m curB.data.toList with
    | none => exact Nat.zero_le _
    | some x => exact hm _ x h
  have HF1 := hdN (HF.out curB (by decide) w (Below.refl _ _))
  have HC : Hid (curM m = match m ((m curB.data.toList).getD (ByteArray.empty, 0)).1.data.toList with
    | some x => if manN ((m curB.data.toList).getD (ByteArray.empty, 0)).1.data.toList ≠ 0 then some x.1 else none
    | none => none) := rfl
  generalize curM m = CM at *
  generalize (m curB.data.toList).isSome = ok1 at *
  generalize ((m curB.data.toList).getD (ByteArray.empty, 0)).1 = nm at *
  have HF2 := hdN (fun (w' : World) (hb : Below w.heap.size w w') => HF.out nm hcz w' hb)
  have HRn := hdN (fun (w' : World) (hb : Below w.heap.size w w') => readName_any nm hcz w' (hv.below hb))
  generalize m nm.data.toList = fx at *
  generalize manN nm.data.toList = M at *
  clear hm hdir hobj hv HF
  go_enter Tryz.func19, Tryz.ntmps19
  go_wp2_with fail
  refine HF1.out.mono ?_
  rintro r w1 ⟨rfl, hb1⟩
  go_wp2_with fail
  refine (HF2.out _ hb1).mono ?_
  rintro r w2 ⟨rfl, hb2⟩
  have HB2 := hdN (hb1.trans (hb2.mono hb1.size))
  clear hb1 hb2
  cases fx with
  | none =>
    have hC : CM = none := HC.out
    subst hC
    go_wp2_with fail
    refine bodyPost_ret (v := .tuple #[.string ⟨#[]⟩, .string ⟨#[]⟩, .bool false]) (by simp [results, Tryz.results19, go_sem]) rfl ⟨⟨⟨#[]⟩, rfl⟩, HB2.out⟩
  | some x =>
    go_wp2_with fail
    refine (HRn.out _ HB2.out).mono ?_
    rintro r w3 ⟨k, n, rfl, hk, hb3⟩
    have HB3 := hdN (HB2.out.trans (hb3.mono HB2.out.size))
    clear hb3
    have hfd : ∀ w : World, (Instr.field 93 (.agg #[.int .i64 k, .int .i64 n]) 0).run Tryz.prog w = .ok (.int .i64 k) w := fun _ => by kernel_rfl
    by_cases h3 : k = 3
    · have hM := hk.1 h3
      have hC : CM = some x.1 := HC.out.trans (if_pos hM)
      subst hC h3
      go_wp2_with fail
      refine bodyPost_ret (v := .tuple #[.string nm, .string x.1, .bool true]) (by simp [results, Tryz.results19, go_sem]) rfl ⟨⟨nm, rfl⟩, HB3.out⟩
    · have hM : ¬ M ≠ 0 := fun h => h3 (hk.2 h)
      have hC : CM = none := HC.out.trans (if_neg hM)
      subst hC
      have h3' : (k == 3) = false := by simpa using h3
      clear hk
      go_wp2_with fail
      refine bodyPost_ret (v := .tuple #[.string ⟨#[]⟩, .string ⟨#[]⟩, .bool false]) (by simp [results, Tryz.results19, go_sem]) rfl ⟨⟨⟨#[]⟩, rfl⟩, HB3.out⟩
end Go.Proofs.YtphikgobdfknkaaGreatDoor
namespace Go.Proofs.YtphikgobdfknkaaGreatDoor
open Go.RowKit Go.Maps
set_option linter.unusedVariables false
set_option linter.unusedSimpArgs false

theorem foldM_refs : ∀ (ps : List ByteArray) (ts : List Tr) (l : Ed) (ts' : List Tr) (l' : Ed), (∀ t ∈ ts, refOk t = true) → foldM ts l ps = some (ts', l') → (∀ t ∈ ts', refOk t = true) ∧ (ps ≠ [] → edOk l' = true)
  | [], ts, l, ts', l', h, e => by
    simp only [foldM, Option.some.injEq, Prod.mk.injEq] at e
    rw [← e.1]
    exact ⟨h, fun h => absurd rfl h⟩
  | p :: ps, ts, l, ts', l', h, e => by
    cases hp : (decEd p).isSome with
    | false => rw [foldM_none hp] at e; cases e
    | true =>
      cases ha : apOk ts (edR p) with
      | false => rw [foldM_bad hp ha] at e; cases e
      | true =>
        rw [foldM_step hp ha] at e
        have heo := edR_ok hp
        have hr := ((edOk_iff _).1 heo).2.1
        have hall : ∀ t ∈ apS ts (edR p), refOk t = true := fun t ht => by
          rcases List.mem_append.1 ((apS_perm ts (edR p)).mem_iff.1 ht) with h' | h'
          · exact h t (List.mem_filter.1 h').1
          · exact List.all_eq_true.1 hr t h'
        obtain ⟨h1, h2⟩ := foldM_refs ps _ _ ts' l' hall e
        refine ⟨h1, fun _ => ?_⟩
        by_cases hps : ps = []
        · subst hps
          simp only [foldM, Option.some.injEq, Prod.mk.injEq] at e
          rw [← e.2]
          exact heo
        · exact h2 hps
theorem rm_parts {s : ByteArray} {ts : List Tr} {l : Ed} (h : rmO s = some (ts, l)) : (∀ t ∈ ts, refOk t = true) ∧ edOk l = true := by
  unfold rmO at h
  split at h
  · cases h
  · rename_i hn
    obtain ⟨h1, h2⟩ := foldM_refs _ _ _ _ _ (fun t ht => absurd ht (by simp)) h
    exact ⟨h1, h2 (fun e => hn (by rw [e]; rfl))⟩
theorem foldM_goodD : ∀ (ps : List ByteArray) (ts : List Tr) (l : Ed) (ts' : List Tr) (l' : Ed), GoodTs ts → foldM ts l ps = some (ts', l') → GoodTs ts'
  | [], ts, l, ts', l', h, e => by
    simp only [foldM, Option.some.injEq, Prod.mk.injEq] at e
    rw [← e.1]
    exact h
  | p :: ps, ts, l, ts', l', h, e => by
    cases hp : (decEd p).isSome with
    | false => rw [foldM_none hp] at e; cases e
    | true =>
      cases ha : apOk ts (edR p) with
      | false => rw [foldM_bad hp ha] at e; cases e
      | true =>
        rw [foldM_step hp ha] at e
        exact foldM_goodD ps _ _ ts' l' (goodTs_next h (edR_ok hp) ha) e
theorem rmP_le (s : ByteArray) : rmP s * 64 ≤ s.size := by
  have key : ∀ d q, s.size - q ≤ d → ∀ f ∈ frs s q, rfN f * 64 ≤ s.size := by
    intro d
    induction d with
    | zero => intro q hq f hf; rw [frs_end (by omega)] at hf; cases hf
    | succ d ih =>
      intro q hq f hf
      by_cases hp : q * 64 < s.size
      · rw [frs_more hp] at hf
        rcases List.mem_cons.1 hf with rfl | hf
        · cases hi : (rf s q).isSome with
          | true => exact (nx_some hi).2
          | false =>
            cases hr : rf s q with
            | none => simp [rfN]
            | some x => rw [hr] at hi; cases hi
        · have := nx_gt s q
          exact ih (nx s q) (by omega) f hf
      · rw [frs_end hp] at hf
        cases hf
  unfold rmP
  split
  · unfold lastN
    cases hl : (rlL s 77).getLast? with
    | none => simp
    | some f =>
      have hf : f ∈ rlL s 77 := List.mem_of_getLast? hl
      have h1 : f ∈ frs s 0 := (List.takeWhile_sublist (gd 77) (l := frs s 0)).subset hf
      simpa using key _ 0 (Nat.le_refl _) f h1
  · simp
/-- The first line. -/
def hdB (l : Ed) : ByteArray := ⟨#[108, 111, 103, 32]⟩ ++ itB l.lg ++ ⟨#[32, 110, 101, 120, 116, 32]⟩ ++ itB l.nx ++ ⟨#[32, 108, 97, 115, 116, 32]⟩ ++ itB l.la ++ ⟨#[10]⟩
/-- The lines of tables. -/
def lnsL (m : List UInt8 → Option (ByteArray × Int)) (ts : List Tr) : List UInt8 := ts.flatMap fun t => (lnB m t).data.toList
/-- What is said of a torn end. -/
def tornL (p n : Nat) : List UInt8 := if p * 64 = n then [] else [116, 111, 114, 110, 10]
/-- What the dump says of a manifest's text. -/
def dmB (m : List UInt8 → Option (ByteArray × Int)) (s : ByteArray) : ByteArray := match rmO s with
  | none => ⟨#[98, 97, 100, 32, 109, 97, 110, 105, 102, 101, 115, 116, 10]⟩
  | some (ts, l) => ⟨((hdB l).data.toList ++ lnsL m ts ++ tornL (rmP s) s.size).toArray⟩
theorem lnB_size {m : List UInt8 → Option (ByteArray × Int)} {t : Tr} (ht : refOk t = true) (hm : ∀ l x, m l = some x → x.1.size ≤ 1048576) : (lnB m t).size ≤ 100 := by
  obtain ⟨h1, h2, -⟩ := (refOk_iff t).1 ht
  have z1 := itB_size (n := t.nu) ⟨by omega, by omega⟩
  have z2 := itB_size (n := t.lv) ⟨by omega, by omega⟩
  have za : (lnA t).size ≤ 55 := by
    unfold lnA
    simp only [ByteArray.size_append]
    show 6 + (itB t.nu).size + 7 + (itB t.lv).size ≤ 55
    omega
  unfold lnB
  split
  · rename_i x hx
    have hx' := hm _ _ hx
    have z3 := itB_size (n := ((x.1.size : Nat) : Int)) ⟨by omega, by omega⟩
    simp only [ByteArray.size_append]
    show (lnA t).size + 6 + _ + 1 ≤ _
    omega
  · simp only [ByteArray.size_append]
    show (lnA t).size + 9 ≤ _
    omega
theorem lnsL_snoc (m : List UInt8 → Option (ByteArray × Int)) (ts : List Tr) (t : Tr) : lnsL m (ts ++ [t]) = lnsL m ts ++ (lnB m t).data.toList := by simp [lnsL]
theorem lnsL_len {m : List UInt8 → Option (ByteArray × Int)} (hm : ∀ l x, m l = some x → x.1.size ≤ 1048576) : ∀ (ts : List Tr), (∀ t ∈ ts, refOk t = true) → (lnsL m ts).length ≤ 100 * ts.length
  | [], _ => by simp [lnsL]
  | t :: ts, h => by
    have ih := lnsL_len hm ts (fun x hx => h x (List.mem_cons_of_mem _ hx))
    have h1 := lnB_size (m := m) (h t (List.mem_cons_self ..)) hm
    have e : (lnsL m (t :: ts)).length = (lnB m t).data.toList.length + (lnsL m ts).length := by simp [lnsL]
    have e2 : (lnB m t).data.toList.length = (lnB m t).size := by rw [Array.length_toList]; rfl
    rw [e, e2, List.length_cons]
    omega
set_option maxRecDepth 100000 in
set_option maxHeartbeats 8000000 in
theorem dumpManifest_any (g mb c : Nat) (q fu : Int) (m : List UInt8 → Option (ByteArray × Int)) (s : ByteArray) (w : World) (hs : s.size ≤ 1048576) (hobj : w.heap[g]? = some (.cells (dirC mb q fu) 88 (0, 0))) (hdir : Dir w mb c m) (hne : g ≠ mb) (hm : ∀ l x, m l = some x → x.1.size ≤ 1048576) (hv : VarsN w) (hst : Steps w) :
    Calls Tryz.prog 20 #[.pointer (some ⟨g, 0, none⟩), .string s] w fun e w' => e = .returned (.string (dmB m s)) ∧ Below w.heap.size w w' := by
  have hglt := heap_ltN hobj
  have hmlt := hdir.lt
  have HRm := hdN (implRm_any s w hs hst)
  have HD := hdN (fun (t : Tr) (ht : refOk t = true) (w' : World) (hb : Below w.heap.size w w') => dumpTable_any g mb c q fu m t w' (by obtain ⟨h1, -⟩ := (refOk_iff t).1 ht; exact ⟨by omega, by omega⟩) (by obtain ⟨-, h1, -⟩ := (refOk_iff t).1 ht; exact ⟨by omega, by omega⟩) ((hb.block g hglt).trans hobj) (hdir.below hb hmlt) hne hm (hv.below hb))
  have HT := hdN (fun (n : Int) (h : I64 n) (w' : World) (hb : Below w.heap.size w w') => itoaN n h.1 h.2 w' (hv.below hb))
  cases hro : rmO s with
  | none =>
    obtain ⟨r1, r2, r3, r4⟩ := rm_none hro
    have hd : dmB m s = ⟨#[98, 97, 100, 32, 109, 97, 110, 105, 102, 101, 115, 116, 10]⟩ := by unfold dmB; rw [hro]
    rw [hd]
    rw [r4] at HRm
    generalize rmT s = RT at *
    generalize rmE s = RE at *
    generalize rmP s = RP at *
    clear r1 r2 r3 r4 hd hro
    go_enter Tryz.func20, Tryz.ntmps20
    go_wp2_with fail
    refine HRm.out.mono ?_
    rintro r w1 ⟨a1, c1, rfl, hT1, hb1⟩
    go_wp2_with fail
    go_ret
    exact ⟨rfl, hb1.alloc hb1.size _⟩
  | some tl =>
    obtain ⟨ts, l⟩ := tl
    obtain ⟨r1, r2, r3, r4⟩ := rm_some hro
    obtain ⟨hrefs, hel⟩ := rm_parts hro
    have hlt : ts.length ≤ 1000 := by
      have h := hro
      unfold rmO at h
      split at h
      · cases h
      · exact (foldM_goodD _ _ _ _ _ goodTs_nil h).len
    have hd : dmB m s = ⟨((hdB l).data.toList ++ lnsL m ts ++ tornL (rmP s) s.size).toArray⟩ := by unfold dmB; rw [hro]
    rw [hd]
    generalize hDT : (⟨((hdB l).data.toList ++ lnsL m ts ++ tornL (rmP s) s.size).toArray⟩ : ByteArray) = DT
    have HDT := hdN hDT
    clear hDT
    rw [r1, r2, r4] at HRm
    have hRP := rmP_le s
    generalize rmP s = RP at *
    clear r1 r2 r3 r4 hd hro
    obtain ⟨-, -, -, -, o1, o2, o3⟩ := (edOk_iff l).1 hel
    rw [numOk_iff] at o1 o2
    have hI1 : I64 l.lg := ⟨by omega, by omega⟩
    have hI2 : I64 l.nx := ⟨by omega, by omega⟩
    have hI3 : I64 l.la := ⟨by omega, by omega⟩
    have hz1 := itB_size hI1
    have hz2 := itB_size hI2
    have hz3 := itB_size hI3
    have HHd : Hid (hdB l = ⟨#[108, 111, 103, 32]⟩ ++ itB l.lg ++ ⟨#[32, 110, 101, 120, 116, 32]⟩ ++ itB l.nx ++ ⟨#[32, 108, 97, 115, 116, 32]⟩ ++ itB l.la ++ ⟨#[10]⟩) := rfl
    have hdz : (hdB l).size ≤ 90 := by rw [HHd.out]; simp only [ByteArray.size_append]; show 4 + (itB l.lg).size + 6 + (itB l.nx).size + 6 + (itB l.la).size + 1 ≤ 90; omega
    have hdl : (hdB l).data.toList.length = (hdB l).size := by rw [Array.length_toList]; rfl
    generalize hdB l = HB at *
    obtain ⟨ad, dl, lg, nx, la⟩ := l
    dsimp only at *
    have u1 : ¬ 9223372036854775807 < 4 + (itB lg).size := by omega
    have u2 : ¬ 9223372036854775807 < 4 + (itB lg).size + 6 := by omega
    have u3 : ¬ 9223372036854775807 < 4 + (itB lg).size + 6 + (itB nx).size := by omega
    have u4 : ¬ 9223372036854775807 < 4 + (itB lg).size + 6 + (itB nx).size + 6 := by omega
    have u5 : ¬ 9223372036854775807 < 4 + (itB lg).size + 6 + (itB nx).size + 6 + (itB la).size := by omega
    have u6 : ¬ 9223372036854775807 < 4 + (itB lg).size + 6 + (itB nx).size + 6 + (itB la).size + 1 := by omega
    have hlenT : ts.length ≤ 1000 := hlt
    have HRef := hdN hrefs
    have HM := hdN hm
    clear hrefs hm hobj hdir hv hst o1 o2 o3 hel hlt
    go_enter Tryz.func20, Tryz.ntmps20
    go_wp2_with fail
    refine HRm.out.mono ?_
    rintro r w1 ⟨a1, c1, rfl, hT1, hb1⟩
    generalize hWa : w1.alloc (.cells #[.slice a1 ts.length c1, .int .i64 lg, .int .i64 nx, .int .i64 la] 40) = Wa
    have hsa : w1.heap.size < Wa.heap.size := by rw [← hWa]; simp
    have hXa : Wa.heap[w1.heap.size]? = some (.cells #[.slice a1 ts.length c1, .int .i64 lg, .int .i64 nx, .int .i64 la] 40 (0, 0)) := by rw [← hWa]; exact World.heap_alloc_new _ _
    have hba : Below w1.heap.size w1 Wa := by rw [← hWa]; exact (Below.refl _ _).alloc (Nat.le_refl _) _
    have HTa := hdN (hT1.below hba)
    have HSz : Hid (Wa.heap.size = w1.heap.size + 1) := by show _ = _; rw [← hWa]; simp
    have hbwa := hb1.trans (hba.mono hb1.size)
    generalize hWb : Wa.alloc (.cells #[.pointer none, .slice none 0 0] 98) = Wb
    obtain ⟨z0, z1, z2, z3⟩ := four_cellsD hXa
    have hsz1 : Wa.heap.size = w1.heap.size + 1 := by rw [← hWa]; simp
    have hBb : Bld (w1.heap.size + 1) (w1.heap.size + 1) [] Wb := by rw [← hWb, ← hsz1]; exact Lib.IsBuilderF.of (Lib.fresh_isBuilder 98 5 Wa)
    have hbb : Below (w1.heap.size + 1) Wa Wb := by rw [← hWb, ← hsz1]; exact (Below.refl _ _).alloc (Nat.le_refl _) _
    have hsb : w1.heap.size + 1 ≤ Wb.heap.size := by rw [← hsz1]; exact hbb.size
    have hXb := (hbb.block w1.heap.size (by omega)).trans hXa
    have hbwb := hbwa.trans (hbb.mono (by have := hbwa.size; omega))
    obtain ⟨x0, x1, x2, x3⟩ := four_cellsD hXb
    have hlb := heap_ltN hXb
    have HI1 := hdN (HT.out lg hI1 Wb.drew hbwb.drew)
    have HWa := hdN hWa
    have HWb := hdN hWb
    have HBb := hdN hBb
    have Hbb := hdN hbb
    have Hbwb := hdN hbwb
    have Hbwa := hdN hbwa
    clear hsz1 hWa hWb hb1 hT1 hba HRm hBb hbb hbwb hXb hbwa
    go_wp2_with fail
    rw [HWa.out, HWb.out]
    clear HWa HWb
    go_region_held3 (fun w' => w'.cell? ⟨w1.heap.size, 1, none⟩ = some (.int .i64 lg) ∧ w'.cell? ⟨w1.heap.size, 2, none⟩ = some (.int .i64 nx) ∧ w'.cell? ⟨w1.heap.size, 3, none⟩ = some (.int .i64 la)) (simp [go_sem, *])
      (first
        | (go_at_call 40; refine HI1.out.mono ?_; rintro r w2 ⟨rfl, hb2⟩; have hbb2 : Below Wb.heap.size Wb w2 := ((Below.refl _ Wb).drew).trans hb2; have k0 := (hbb2.cell (p := ⟨w1.heap.size, _, none⟩) hlb).trans x0; have k1 := (hbb2.cell (p := ⟨w1.heap.size, _, none⟩) hlb).trans x1; have k2 := (hbb2.cell (p := ⟨w1.heap.size, _, none⟩) hlb).trans x2; have k3 := (hbb2.cell (p := ⟨w1.heap.size, _, none⟩) hlb).trans x3; have Hbb2 := hdN hbb2; have Hbw2 := hdN (Hbwb.out.trans (hbb2.mono Hbwb.out.size)); clear hb2 hbb2)
        | (go_at_call 40; refine (HT.out nx hI2 _ Hbw2.out).mono ?_; rintro r w3 ⟨rfl, hb3⟩; have hbb3 : Below Wb.heap.size Wb w3 := Hbb2.out.trans (hb3.mono Hbb2.out.size); have m0 := (hbb3.cell (p := ⟨w1.heap.size, _, none⟩) hlb).trans x0; have m1 := (hbb3.cell (p := ⟨w1.heap.size, _, none⟩) hlb).trans x1; have m2 := (hbb3.cell (p := ⟨w1.heap.size, _, none⟩) hlb).trans x2; have m3 := (hbb3.cell (p := ⟨w1.heap.size, _, none⟩) hlb).trans x3; have Hbb3 := hdN hbb3; have Hbw3 := hdN (Hbwb.out.trans (hbb3.mono Hbwb.out.size)); clear hb3 hbb3)
        | (go_at_call 40; refine (HT.out la hI3 _ Hbw3.out).mono ?_; rintro r w4 ⟨rfl, hb4⟩; have hbb4 : Below Wb.heap.size Wb w4 := Hbb3.out.trans (hb4.mono Hbb3.out.size); have n0 := (hbb4.cell (p := ⟨w1.heap.size, _, none⟩) hlb).trans x0; have n1 := (hbb4.cell (p := ⟨w1.heap.size, _, none⟩) hlb).trans x1; have n2 := (hbb4.cell (p := ⟨w1.heap.size, _, none⟩) hlb).trans x2; have n3 := (hbb4.cell (p := ⟨w1.heap.size, _, none⟩) hlb).trans x3; have Hbb4 := hdN hbb4; have Hbw4 := hdN (Hbwb.out.trans (hbb4.mono Hbwb.out.size)); clear hb4 hbb4)
        | (go_at_call 39; refine (writeString_any (w1.heap.size + 1) (w1.heap.size + 1) [] _ _ (HBb.out.below Hbb4.out) (by rw [← HHd.out]; simp only [List.length_nil]; omega) (Nat.le_trans hsb Hbb4.out.size)).mono ?_; rintro r w5 ⟨rfl, hB5, hb5, -⟩; have HB5 := hdN hB5; have hba5 : Below (w1.heap.size + 1) Wa w5 := (Hbb.out.trans (Hbb4.out.mono hsb)).trans hb5; have Hba5 := hdN hba5; have j0 := (hba5.cell (p := ⟨w1.heap.size, _, none⟩) (Nat.lt_succ_self _)).trans z0; have j1 := (hba5.cell (p := ⟨w1.heap.size, _, none⟩) (Nat.lt_succ_self _)).trans z1; have j2 := (hba5.cell (p := ⟨w1.heap.size, _, none⟩) (Nat.lt_succ_self _)).trans z2; have j3 := (hba5.cell (p := ⟨w1.heap.size, _, none⟩) (Nat.lt_succ_self _)).trans z3; clear hB5 hb5 hba5))
    all_goals
      rw [← HHd.out, List.nil_append] at HB5
      clear HHd u1 u2 u3 u4 u5 u6 k0 k1 k2 k3 m0 m1 m2 m3 n0 n1 n2 n3 x0 x1 x2 x3 z0 z1 z2 z3 Hbb2 Hbb3 Hbb4 Hbw2 Hbw3 Hbw4 HI1 HBb Hbb Hbwb hz1 hz2 hz3 hI1 hI2 hI3
      go_wp2_with fail
      go_loopw [38] (fun vi wr => ∃ k : Nat, vi = .int .i64 (k : Int) ∧ k ≤ ts.length ∧ Hid (Bld (w1.heap.size + 1) (w1.heap.size + 1) (HB.data.toList ++ lnsL m (ts.take k)) wr) ∧ Hid (Below (w1.heap.size + 1) Wa wr)) (fun vi _ => ts.length - (intOf vi).toNat)
      case atStart => exact ⟨0, rfl, Nat.zero_le _, by show Bld _ _ _ _; simpa [lnsL] using HB5.out, Hba5⟩
      case round =>
        clear HB5 Hba5
        obtain ⟨k, rfl, hk, HBr, HBa⟩ := hrel
        have hbwr := Hbwa.out.trans (HBa.out.mono (by have := Hbwa.out.size; have := HSz.out; omega))
        have hsr : w1.heap.size + 1 ≤ wr.heap.size := by have := HBa.out.size; have := HSz.out; omega
        have hll : (HB.data.toList ++ lnsL m (ts.take k)).length ≤ 200000 := by
          have h1 := lnsL_len HM.out (ts.take k) (fun t ht => HRef.out t (List.mem_of_mem_take ht))
          rw [List.length_take] at h1
          rw [List.length_append, hdl]
          omega
        by_cases hlt : k < ts.length
        · have hlt' : (k : Int) < (ts.length : Int) := by omega
          obtain ⟨tb, off, rfl, htb, c0, c1', c2, c3⟩ := (HTa.out.below (w' := wr) (by rw [HSz.out]; exact HBa.out)).lie.at hlt
          have hok : refOk (ts.getD k tr0) = true := by
            have e : ts.getD k tr0 = ts[k] := by simp [List.getD, hlt]
            rw [e]
            exact HRef.out _ (List.getElem_mem hlt)
          have HLn : Hid (lnsL m (ts.take (k + 1)) = lnsL m (ts.take k) ++ (lnB m (ts.getD k tr0)).data.toList) := by show _ = _; rw [takeT_snoc ts k hlt, lnsL_snoc]
          have hz := lnB_size (m := m) hok HM.out
          have hA : Below wr.heap.size wr (wr.alloc (.cells #[.int .i64 (ts.getD k tr0).nu, .int .i64 (ts.getD k tr0).lv, .string (ts.getD k tr0).lo, .string (ts.getD k tr0).hi] 45)) := (Below.refl _ _).alloc (Nat.le_refl _) _
          have HDt := hdN (HD.out (ts.getD k tr0) hok (wr.alloc (.cells #[.int .i64 (ts.getD k tr0).nu, .int .i64 (ts.getD k tr0).lv, .string (ts.getD k tr0).lo, .string (ts.getD k tr0).hi] 45)) (hbwr.trans (hA.mono hbwr.size)))
          have HA := hdN hA
          clear hA
          generalize lnB m (ts.getD k tr0) = LB at *
          generalize lnsL m (ts.take k) = LS at *
          generalize ts.getD k tr0 = f at *
          obtain ⟨nu, lv, lo, hi⟩ := f
          dsimp only at *
          go_wp2_with fail
          refine HDt.out.mono ?_
          rintro r w6 ⟨rfl, hb6⟩
          have hb6' := HA.out.trans (hb6.mono HA.out.size)
          have HB6 := hdN (HBr.out.below hb6')
          have HBa6 := hdN (HBa.out.trans (hb6'.mono hsr))
          have hs6 := Nat.le_trans hsr hb6'.size
          clear hb6 hb6' HA HDt c0 c1' c2 c3
          go_wp2_with fail
          refine (writeString_any (w1.heap.size + 1) (w1.heap.size + 1) _ LB w6 HB6.out (by omega) hs6).mono ?_
          rintro r w7 ⟨rfl, hB7, hb7, -⟩
          have HB7 := hdN hB7
          have HBa7 := hdN (HBa6.out.trans hb7)
          clear hB7 hb7
          go_wp2_with fail
          exact ⟨⟨k + 1, by go_num, by omega, by show Bld _ _ _ _; rw [HLn.out, ← List.append_assoc]; exact HB7.out, HBa7⟩, by simp only [intOf]; omega⟩
        · obtain rfl : k = ts.length := by omega
          have hik : ¬ (ts.length : Int) < (ts.length : Int) := by omega
          rw [List.take_length] at HBr hll
          by_cases hq : RP * 64 = s.size
          · have hq' : (RP : Int) * 64 = (s.size : Int) := by omega
            have ht : tornL RP s.size = [] := by unfold tornL; rw [if_pos hq]
            rw [ht, List.append_nil] at HDT
            clear ht
            go_wp2_with fail
            refine (Tryz.Builder_String_any_k (w1.heap.size + 1) (w1.heap.size + 1) _ _ HBr.out hsr).mono ?_
            rintro e w9 ⟨rfl, -, hb9, -⟩
            rw [HDT.out]
            have hfin := Hbwa.out.trans ((HBa.out.trans hb9).mono (by have := Hbwa.out.size; have := HSz.out; omega))
            go_wp2_with fail
            go_ret
            exact ⟨rfl, hfin⟩
          · have hq' : ((RP : Int) * 64 == (s.size : Int)) = false := by rw [beq_eq_false_iff_ne]; omega
            have hq2 : ¬ (RP : Int) * 64 = (s.size : Int) := by omega
            have ht : tornL RP s.size = [116, 111, 114, 110, 10] := by unfold tornL; rw [if_neg hq]
            rw [ht] at HDT
            clear ht
            go_wp2_with fail
            refine (writeString_any (w1.heap.size + 1) (w1.heap.size + 1) _ ⟨#[116, 111, 114, 110, 10]⟩ wr HBr.out (by show _ + 5 ≤ _; omega) hsr).mono ?_
            rintro r w7 ⟨rfl, hB7, hb7, -⟩
            have hs7 : w1.heap.size + 1 ≤ w7.heap.size := Nat.le_trans hsr hb7.size
            have HBa7 := hdN (HBa.out.trans hb7)
            go_wp2_with fail
            refine (Tryz.Builder_String_any_k (w1.heap.size + 1) (w1.heap.size + 1) _ _ hB7 hs7).mono ?_
            rintro e w9 ⟨rfl, -, hb9, -⟩
            rw [HDT.out]
            have hfin := Hbwa.out.trans ((HBa7.out.trans hb9).mono (by have := Hbwa.out.size; have := HSz.out; omega))
            go_wp2_with fail
            go_ret
            exact ⟨rfl, hfin⟩
end Go.Proofs.YtphikgobdfknkaaGreatDoor
namespace Go.Proofs.YtphikgobdfknkaaGreatDoor
open Go.RowKit Go.Maps
set_option linter.unusedVariables false
set_option linter.unusedSimpArgs false

theorem fm_size : ∀ (xs : List Fl) (l : List UInt8) (x : ByteArray × Int), fm xs l = some x → x.1.size ≤ datas xs
  | [], l, x, h => by cases h
  | f :: r, l, x, h => by
    simp only [fm] at h
    have e : datas (f :: r) = f.dt.size + datas r := by simp [datas]
    cases hr : fm r l with
    | some y =>
      rw [hr] at h
      cases h
      have := fm_size r l _ hr
      omega
    | none =>
      rw [hr] at h
      simp only at h
      split at h
      · cases h
        simp only
        omega
      · cases h
/-- What the dump of a directory says. -/
def dumpT (xs : List Fl) (q fu : Int) : ByteArray := if vldB xs q fu = true then
    (match fm xs curB.data.toList with
    | none => ⟨#[110, 111, 32, 67, 85, 82, 82, 69, 78, 84, 10]⟩
    | some _ => match curM (fm xs) with
      | none => ⟨#[98, 97, 100, 32, 67, 85, 82, 82, 69, 78, 84, 10]⟩
      | some d => dmB (fm xs) d)
  else ⟨#[105, 110, 118, 97, 108, 105, 100, 10]⟩
theorem curM_size {m : List UInt8 → Option (ByteArray × Int)} (hm : ∀ l x, m l = some x → x.1.size ≤ 1048576) {d : ByteArray} (h : curM m = some d) : d.size ≤ 1048576 := by
  unfold curM at h
  split at h
  · rename_i x hx
    split at h
    · cases h
      exact hm _ _ hx
    · cases h
  · cases h
set_option maxRecDepth 100000 in
set_option maxHeartbeats 4000000 in
theorem implDump_any (a : Option Addr) (cap : Nat) (xs : List Fl) (q fu : Int) (w : World) (hx : Lie w a xs) (hf : Fits xs) (hlen : xs.length ≤ 1048576) (hd : datas xs ≤ 1048576) (hv : VarsN w) (hst : Steps w) :
    Calls Tryz.prog 7 #[.agg #[.slice a xs.length cap, .int .i64 q, .int .i64 fu]] w fun e w' => e = .returned (.string (dumpT xs q fu)) ∧ Below w.heap.size w w' := by
  have hm : ∀ l x, fm xs l = some x → x.1.size ≤ 1048576 := fun l x h => Nat.le_trans (fm_size xs l x h) hd
  have hb0 : Below w.heap.size w (w.alloc (.cells #[.slice a xs.length cap, .int .i64 q, .int .i64 fu] 29)) := (Below.refl _ _).alloc (Nat.le_refl _) _
  cases hvd : vldB xs q fu with
  | false =>
    have hT : dumpT xs q fu = ⟨#[105, 110, 118, 97, 108, 105, 100, 10]⟩ := by unfold dumpT; rw [if_neg (by simp [hvd])]
    rw [hT]
    have HO := hdN (openDir_bad a cap xs q fu _ (hx.below hb0) hf hlen hd hvd)
    go_enter Tryz.func7, Tryz.ntmps7
    go_wp2_with fail
    refine HO.out.mono ?_
    rintro r w1 ⟨rfl, hb1⟩
    go_wp2_with fail
    go_ret
    exact ⟨rfl, hb0.trans (hb1.mono hb0.size)⟩
  | true =>
    have HT : Hid (dumpT xs q fu = match fm xs curB.data.toList with
      | none => ⟨#[110, 111, 32, 67, 85, 82, 82, 69, 78, 84, 10]⟩
      | some _ => match curM (fm xs) with
        | none => ⟨#[98, 97, 100, 32, 67, 85, 82, 82, 69, 78, 84, 10]⟩
        | some d => dmB (fm xs) d) := by show _ = _; unfold dumpT; rw [if_pos hvd]
    generalize dumpT xs q fu = DT at *
    have HO := hdN (openDir_ok a cap xs q fu _ (hx.below hb0) hf hlen hd hvd)
    go_enter Tryz.func7, Tryz.ntmps7
    go_wp2_with fail
    refine HO.out.mono ?_
    rintro r w1 ⟨g, mb, rfl, hmb, hg, hne, hobj, hdir, hb1⟩
    have hbw1 := hb0.trans (hb1.mono hb0.size)
    have hglt := heap_ltN hobj
    have hmlt := hdir.lt
    have HF := hdN (find_any g mb xs.length q fu (fm xs) curB w1 (by decide) hobj hdir hne)
    have hcm := fun d (h : curM (fm xs) = some d) => curM_size hm h
    have HC := hdN (fun (w' : World) (hb : Below w1.heap.size w1 w') => currentManifest_any g mb xs.length q fu (fm xs) w' ((hb.block g hglt).trans hobj) (hdir.below hb hmlt) hne hm (hv.below (hbw1.trans (hb.mono hbw1.size))))
    have HDm := hdN (fun (d : ByteArray) (hd' : d.size ≤ 1048576) (w' : World) (hb : Below w1.heap.size w1 w') => dumpManifest_any g mb xs.length q fu (fm xs) d w' hd' ((hb.block g hglt).trans hobj) (hdir.below hb hmlt) hne hm (hv.below (hbw1.trans (hb.mono hbw1.size))) (hst.below (hbw1.trans (hb.mono hbw1.size))))
    have HCm := hdN hcm
    clear hcm hb1 hobj hdir HO
    generalize curM (fm xs) = CM at *
    generalize hcur : fm xs curB.data.toList = cur at *
    clear hcur
    go_wp2_with fail
    refine HF.out.mono ?_
    rintro r w2 ⟨rfl, hb2⟩
    cases cur with
    | none =>
      have hDT : DT = ⟨#[110, 111, 32, 67, 85, 82, 82, 69, 78, 84, 10]⟩ := HT.out
      subst hDT
      go_wp2_with fail
      go_ret
      exact ⟨rfl, hbw1.trans (hb2.mono hbw1.size)⟩
    | some cu =>
      go_wp2_with fail
      refine (HC.out _ hb2).mono ?_
      rintro r w3 ⟨⟨nm, rfl⟩, hb3⟩
      have hb13 := hb2.trans (hb3.mono hb2.size)
      cases CM with
      | none =>
        have hDT : DT = ⟨#[98, 97, 100, 32, 67, 85, 82, 82, 69, 78, 84, 10]⟩ := HT.out
        subst hDT
        go_wp2_with fail
        go_ret
        exact ⟨rfl, hbw1.trans (hb13.mono hbw1.size)⟩
      | some d =>
        have hDT : DT = dmB (fm xs) d := HT.out
        have HD1 := hdN (HDm.out d (HCm.out d rfl) w3 hb13)
        rw [← hDT] at HD1
        clear hDT HT HDm
        go_wp2_with fail
        refine HD1.out.mono ?_
        rintro r w4 ⟨rfl, hb4⟩
        go_wp2_with fail
        go_ret
        exact ⟨rfl, hbw1.trans ((hb13.trans (hb4.mono hb13.size)).mono hbw1.size)⟩
end Go.Proofs.YtphikgobdfknkaaGreatDoor
