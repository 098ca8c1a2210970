import Derived.Test.YtphikgobdfknkaaGreatDoorDeV
namespace Go.Proofs.YtphikgobdfknkaaGreatDoor
open Go.RowKit Go.Maps
set_option linter.unusedVariables false
set_option linter.unusedSimpArgs false

def ed0 : Ed := ⟨[], [], 0, 0, 0⟩
/-- The edit that is answered. -/
def edR (s : ByteArray) : Ed := (decEd s).getD ed0
theorem ResT.wide {w : World} {B B' : Nat} {a : Option Addr} {xs : List Tr} (h : ResT w B a xs) (hB : B' ≤ B) : ResT w B' a xs := by
  rcases h with h | ⟨g, rfl, hg, hr⟩
  · exact .inl h
  · exact .inr ⟨g, rfl, by omega, hr⟩
theorem ResI.wide {w : World} {B B' : Nat} {a : Option Addr} {ks : List Int} (h : ResI w B a ks) (hB : B' ≤ B) : ResI w B' a ks := by
  rcases h with h | ⟨g, rfl, hg, hr⟩
  · exact .inl h
  · exact .inr ⟨g, rfl, by omega, hr⟩
theorem ResT.set {w : World} {B p o : Nat} {a : Option Addr} {xs : List Tr} {v : Value} (hp : p < B) (h : ResT w B a xs) : ResT (w.setCell ⟨p, o, none⟩ v) B a xs :=
  h.kept (fun k hk _ => Below.heap_setCell _ _ _ _ (by dsimp only; omega))
theorem ResI.set {w : World} {B p o : Nat} {a : Option Addr} {xs : List Int} {v : Value} (hp : p < B) (h : ResI w B a xs) : ResI (w.setCell ⟨p, o, none⟩ v) B a xs :=
  h.kept (fun k hk _ => Below.heap_setCell _ _ _ _ (by dsimp only; omega))

set_option maxRecDepth 100000 in
set_option maxHeartbeats 3000000 in
theorem implDecEd_any (s : ByteArray) (w : World) (hs : s.size ≤ 1048576) :
    Calls Tryz.prog 63 #[.string s] w fun r w' => ∃ (a : Option Addr) (ca : Nat) (d : Option Addr) (cd : Nat), r = .returned (.tuple #[edV a ca d cd (edR s), .bool (decEd s).isSome]) ∧ ResT w' w.heap.size a (edR s).ad ∧ ResI w' w.heap.size d (edR s).dl ∧ Below w.heap.size w w' := by
  generalize hD : decEd s = D
  have HD : Hid (decEd s = D) := hD
  have HR : Hid (edR s = D.getD ed0) := by show _ = _; rw [edR, hD]
  clear hD
  generalize edR s = E at *
  generalize hW0 : (w.alloc (.cells #[.slice none 0 0, .slice none 0 0, .int .i64 0, .int .i64 0, .int .i64 0] 68)).alloc (.cells #[.string s, .int .i64 0, .bool false] 158) = W0
  have hR0 : W0.heap[w.heap.size]? = some (.cells #[.slice none 0 0, .slice none 0 0, .int .i64 0, .int .i64 0, .int .i64 0] 68 (0, 0)) := by rw [← hW0, alloc_old (by simp)]; exact World.heap_alloc_new _ _
  have h0 : Rd W0 (w.heap.size + 1) s 0 false := by rw [← hW0, ← size_alloc]; exact World.heap_alloc_new _ _
  have hs0 : W0.heap.size = w.heap.size + 2 := by rw [← hW0, size_alloc, size_alloc]
  have hb0 : Below w.heap.size w W0 := by rw [← hW0]; exact ((Below.refl _ _).alloc (Nat.le_refl _) _).alloc (by simp) _
  go_enter Tryz.func63, Tryz.ntmps63
  go_wp2_with fail
  clear hW0
  refine (edit_any (w.heap.size + 1) s W0 h0 hs).mono ?_
  rintro r w1 ⟨a, ca, d, cd, e, A, fl, rfl, h1, hT1, hI1, hf, hl1, hl2, HE1, HE2, ho1⟩
  have hs1 := ho1.size
  have hR1 := (ho1.block w.heap.size (by omega) (by omega)).trans hR0
  have hb1 : Below w.heap.size w w1 := hb0.trans (ho1.below (by omega) hb0.size)
  clear hR0 h0 hb0 ho1
  have ha1 : Below w1.heap.size w1 (w1.alloc (.cells #[.slice a e.ad.length ca, .slice d e.dl.length cd, .int .i64 e.lg, .int .i64 e.nx, .int .i64 e.la] 68)) := (Below.refl _ _).alloc (Nat.le_refl _) _
  have hE2 : (w1.alloc (.cells #[.slice a e.ad.length ca, .slice d e.dl.length cd, .int .i64 e.lg, .int .i64 e.nx, .int .i64 e.la] 68)).heap[w1.heap.size]? = some (.cells #[.slice a e.ad.length ca, .slice d e.dl.length cd, .int .i64 e.lg, .int .i64 e.nx, .int .i64 e.la] 68 (0, 0)) := World.heap_alloc_new _ _
  have h2 := h1.below ha1
  go_wp2_with fail
  refine (done_any (w.heap.size + 1) A s fl _ h2 hs).mono ?_
  rintro r w3 ⟨rfl, hb3⟩
  have hb13 : Below w1.heap.size w1 w3 := ha1.trans (hb3.mono ha1.size)
  have hR3 := (hb13.block w.heap.size (by omega)).trans hR1
  have hE3 := (hb3.block w1.heap.size (by simp)).trans hE2
  have hT3 := (hT1.below hb13).wide (B' := w.heap.size + 1) (by omega)
  have hI3 := (hI1.below hb13).wide (B' := w.heap.size + 1) (by omega)
  have hbw3 := hb1.trans (hb13.mono hb1.size)
  have hlt3 : w1.heap.size < w3.heap.size := heap_lt hE3
  clear hR1 hE2 ha1 hb3 h2 h1 hb13 hT1 hI1 hb1
  obtain ⟨x0, x1, x2, x3, x4⟩ := five_cells hE3
  obtain ⟨y0, y1, y2, y3, y4⟩ := five_cells hR3
  obtain ⟨z0, z1, z2, z3, z4⟩ := five_free hR3
  cases hdone : (!fl && decide (A = s.size)) with
  | false =>
    have hDn : D = none := by
      rw [← HD.out]
      cases fl with
      | true => exact HE1.out rfl
      | false =>
        have h := HE2.out rfl
        simp at hdone
        simp only [decEd, h]
        rw [if_neg (fun h => hdone h.1)]
    have hEe : E = ed0 := by rw [HR.out, hDn]; rfl
    subst hDn hEe
    clear HD HR
    have HB := hd hbw3
    clear hbw3
    go_wp2_with fail
    refine bodyPost_ret (v := .tuple #[edV none 0 none 0 ed0, .bool false]) (by simp [results, Tryz.results63, go_sem, y0, y1, y2, y3, y4, ed0]) rfl ⟨none, 0, none, 0, rfl, .inl rfl, .inl rfl, ?_⟩
    repeat refine below_set (by omega) ?_
    exact HB.out
  | true =>
    have hf' : fl = false ∧ A = s.size := by simpa using hdone
    obtain ⟨rfl, rfl⟩ := hf'
    have hP := HE2.out rfl
    go_wp2_with fail
    refine (implEdit_any a ca d cd e _ hT3.lie hf hI3.lie (by omega) (by omega)).mono ?_
    rintro r w4 ⟨rfl, hb4⟩
    have hR4 := (hb4.block w.heap.size (by omega)).trans hR3
    have hE4 := (hb4.block w1.heap.size hlt3).trans hE3
    have hT4 := hT3.below hb4
    have hI4 := hI3.below hb4
    have hbw4 := hbw3.trans (hb4.mono hbw3.size)
    have hs4 := hb4.size
    clear x0 x1 x2 x3 x4 y0 y1 y2 y3 y4 z0 z1 z2 z3 z4 hR3 hE3 hT3 hI3 hbw3 hb4
    obtain ⟨x0, x1, x2, x3, x4⟩ := five_cells hE4
    obtain ⟨y0, y1, y2, y3, y4⟩ := five_cells hR4
    obtain ⟨z0, z1, z2, z3, z4⟩ := five_free hR4
    have HB := hd hbw4
    have HT := hd hT4
    have HI := hd hI4
    clear hbw4 hT4 hI4
    cases hok : edOk e with
    | false =>
      have hDn : D = none := by
        rw [← HD.out]
        simp only [decEd, hP]
        rw [if_neg (by rw [hok]; simp)]
      have hEe : E = ed0 := by rw [HR.out, hDn]; rfl
      subst hDn hEe
      clear HD HR
      go_wp2_with fail
      refine bodyPost_ret (v := .tuple #[edV none 0 none 0 ed0, .bool false]) (by simp [results, Tryz.results63, go_sem, y0, y1, y2, y3, y4, ed0]) rfl ⟨none, 0, none, 0, rfl, .inl rfl, .inl rfl, ?_⟩
      repeat refine below_set (by omega) ?_
      exact HB.out
    | true =>
      have hDs : D = some e := by
        rw [← HD.out]
        simp only [decEd, hP]
        rw [if_pos ⟨trivial, hok⟩]
      have hEe : E = e := by rw [HR.out, hDs]; rfl
      subst hDs hEe
      clear HD HR
      go_wp2_with fail
      refine bodyPost_ret (v := .tuple #[edV a ca d cd E, .bool true]) (by simp [results, Tryz.results63, go_sem, x0, x1, x2, x3, x4, y0, y1, y2, y3, y4]) rfl ⟨a, ca, d, cd, rfl, ResT.wide (B := w.heap.size + 1) ?_ (by omega), ResI.wide (B := w.heap.size + 1) ?_ (by omega), ?_⟩
      · repeat refine ResT.set (by omega) ?_
        exact HT.out
      · repeat refine ResI.set (by omega) ?_
        exact HI.out
      · repeat refine below_set (by omega) ?_
        exact HB.out
end Go.Proofs.YtphikgobdfknkaaGreatDoor
namespace Go.Proofs.YtphikgobdfknkaaGreatDoor
open Go.RowKit Go.Maps
set_option linter.unusedVariables false
set_option linter.unusedSimpArgs false

/-- What the model's reader has read: references, numbers. -/
def T1 (s : ByteArray) (n k : Nat) (xs : List Tr) (st : Option Nat) : Prop :=
  (st = none → decEd s = none) ∧ (∀ A, st = some A → ∃ c, gv s 0 = some (n, c) ∧ pRs s k c = some (xs, A))
def T2 (s : ByteArray) (m k : Nat) (xs : List Tr) (ks : List Int) (st : Option Nat) : Prop :=
  (st = none → decEd s = none) ∧ (∀ A, st = some A → ∃ n c B d j, gv s 0 = some (n, c) ∧ pRs s j c = some (xs, B) ∧ (j = n ∨ 1000 < j) ∧ j ≤ n ∧ gv s (B : Int) = some (m, d) ∧ pIs s k (B + d) = some (ks, A))
def T3 (s : ByteArray) (xs : List Tr) (ks : List Int) (st : Option Nat) : Prop :=
  (st = none → decEd s = none) ∧ (∀ A, st = some A → ∃ n c B m d j i, gv s 0 = some (n, c) ∧ pRs s j c = some (xs, B) ∧ (j = n ∨ 1000 < j) ∧ j ≤ n ∧ gv s (B : Int) = some (m, d) ∧ pIs s i (B + d) = some (ks, A) ∧ (i = m ∨ 1000 < i) ∧ i ≤ m)
theorem long0 {s : ByteArray} {n c : Nat} (h : gv s 0 = some (n, c)) (hn : 1000 < n) : decEd s = none :=
  none0 (fun n' c' h' => by rw [h] at h'; cases h'; exact hn)
theorem nN_some {s : ByteArray} {A n : Nat} {st : Option Nat} (h : nN s (some A) = (n, st)) : (∃ c, gv s (A : Int) = some (n, c) ∧ st = some (A + c)) ∨ (gv s (A : Int) = none ∧ st = none ∧ n = 0) := by
  simp only [nN] at h
  cases hg : gv s (A : Int) with
  | none => rw [hg] at h; cases h; exact .inr ⟨rfl, rfl, rfl⟩
  | some q => obtain ⟨x, c⟩ := q; rw [hg] at h; cases h; exact .inl ⟨c, rfl, rfl⟩
theorem nK_some {s : ByteArray} {A : Nat} {t : ByteArray} {st : Option Nat} (h : nK s (some A) = (t, st)) : (∃ B, pc s A = some (t, B) ∧ st = some B) ∨ (pc s A = none ∧ st = none) := by
  simp only [nK] at h
  cases hg : pc s A with
  | none => rw [hg] at h; cases h; exact .inr ⟨rfl, rfl⟩
  | some q => obtain ⟨x, c⟩ := q; rw [hg] at h; cases h; exact .inl ⟨c, rfl, rfl⟩
theorem nN_none {s : ByteArray} {n : Nat} {st : Option Nat} (h : nN s none = (n, st)) : st = none ∧ n = 0 := by cases h; exact ⟨rfl, rfl⟩
theorem nK_none {s : ByteArray} {t : ByteArray} {st : Option Nat} (h : nK s none = (t, st)) : st = none := by cases h; rfl
theorem T1_zero {s : ByteArray} {n : Nat} {st : Option Nat} (h : nN s (some 0) = (n, st)) : T1 s n 0 [] st := by
  rcases nN_some h with ⟨c, hg, rfl⟩ | ⟨hg, rfl, rfl⟩
  · refine ⟨fun h => (by cases h), fun A hA => ⟨c, hg, ?_⟩⟩
    cases hA
    simp [pRs]
  · refine ⟨fun _ => none0 (fun n c h => ?_), fun A hA => by cases hA⟩
    have hg' : gv s 0 = none := hg
    rw [hg'] at h
    cases h
theorem T1_succ {s : ByteArray} {n k A nu lv : Nat} {lo hi : ByteArray} {xs : List Tr} {s1 s2 s3 s4 : Option Nat} (h : T1 s n k xs (some A)) (hk : k < n) (e1 : nN s (some A) = (nu, s1)) (e2 : nN s s1 = (lv, s2)) (e3 : nK s s2 = (lo, s3)) (e4 : nK s s3 = (hi, s4)) :
    T1 s n (k + 1) (xs ++ [⟨nu, lv, lo, hi⟩]) s4 := by
  obtain ⟨c, h1, h2⟩ := h.2 A rfl
  have bad : pR s A = none → decEd s = none := fun hp => none1 h1 (pRs_none (k := k + 1) (by simp only [pRs, h2, hp]) n (by omega))
  rcases nN_some e1 with ⟨d1, g1, rfl⟩ | ⟨g1, rfl, -⟩
  · rcases nN_some e2 with ⟨d2, g2, rfl⟩ | ⟨g2, rfl, -⟩
    · rcases nK_some e3 with ⟨B, g3, rfl⟩ | ⟨g3, rfl⟩
      · rcases nK_some e4 with ⟨E, g4, rfl⟩ | ⟨g4, rfl⟩
        · refine ⟨fun h => (by cases h), fun A' hA => ⟨c, h1, ?_⟩⟩
          cases hA
          simp only [pRs, h2, pR, g1, g2, g3, g4]
        · exact ⟨fun _ => bad (by simp only [pR, g1, g2, g3, g4]), fun A hA => by cases hA⟩
      · obtain rfl := nK_none e4
        exact ⟨fun _ => bad (by simp only [pR, g1, g2, g3]), fun A hA => by cases hA⟩
    · obtain rfl := nK_none e3
      obtain rfl := nK_none e4
      exact ⟨fun _ => bad (by simp only [pR, g1, g2]), fun A hA => by cases hA⟩
  · obtain ⟨rfl, -⟩ := nN_none e2
    obtain rfl := nK_none e3
    obtain rfl := nK_none e4
    exact ⟨fun _ => bad (by simp only [pR, g1]), fun A hA => by cases hA⟩
theorem T2_zero {s : ByteArray} {n k m : Nat} {xs : List Tr} {st st' : Option Nat} (h : T1 s n k xs st) (hk : k ≤ n) (hend : st = none ∨ k = n ∨ 1000 < k) (e : nN s st = (m, st')) : T2 s m 0 xs [] st' := by
  cases st with
  | none =>
    obtain ⟨rfl, -⟩ := nN_none e
    exact ⟨fun _ => h.1 rfl, fun A hA => by cases hA⟩
  | some A =>
    obtain ⟨c, h1, h2⟩ := h.2 A rfl
    have hend' : k = n ∨ 1000 < k := by
      rcases hend with h | h | h
      · cases h
      · exact .inl h
      · exact .inr h
    rcases nN_some e with ⟨d, g, rfl⟩ | ⟨g, rfl, -⟩
    · refine ⟨fun h => (by cases h), fun A' hA => ⟨n, c, A, d, k, h1, h2, hend', hk, g, ?_⟩⟩
      cases hA
      simp only [pIs]
    · refine ⟨fun _ => ?_, fun A hA => by cases hA⟩
      rcases hend' with rfl | h
      · exact none2 h1 h2 (fun m d h => by rw [g] at h; cases h)
      · exact long0 h1 (by omega)
theorem T2_succ {s : ByteArray} {m k A x : Nat} {xs : List Tr} {ks : List Int} {st : Option Nat} (h : T2 s m k xs ks (some A)) (hk : k < m) (e : nN s (some A) = (x, st)) : T2 s m (k + 1) xs (ks ++ [(x : Int)]) st := by
  obtain ⟨n, c, B, d, j, h1, h2, h3, h4, h5, h6⟩ := h.2 A rfl
  rcases nN_some e with ⟨y, g, rfl⟩ | ⟨g, rfl, -⟩
  · refine ⟨fun h => (by cases h), fun A' hA => ⟨n, c, B, d, j, h1, h2, h3, h4, h5, ?_⟩⟩
    cases hA
    simp only [pIs, h6, g]
  · refine ⟨fun _ => ?_, fun A hA => by cases hA⟩
    rcases h3 with rfl | h
    · exact none3 h1 h2 h5 (pIs_none (k := k + 1) (by simp only [pIs, h6, g]) m (by omega))
    · exact long0 h1 (by omega)
theorem T3_of {s : ByteArray} {m k : Nat} {xs : List Tr} {ks : List Int} {st : Option Nat} (h : T2 s m k xs ks st) (hk : k ≤ m) (hend : st = none ∨ k = m ∨ 1000 < k) : T3 s xs ks st := by
  refine ⟨h.1, fun A hA => ?_⟩
  obtain ⟨n, c, B, d, j, h1, h2, h3, h4, h5, h6⟩ := h.2 A hA
  refine ⟨n, c, B, m, d, j, k, h1, h2, h3, h4, h5, h6, ?_, hk⟩
  rcases hend with h | h | h
  · rw [hA] at h; cases h
  · exact .inl h
  · exact .inr h
/-- The three numbers, and the end. -/
theorem T3_end {s : ByteArray} {xs : List Tr} {ks : List Int} {s0 s1 s2 s3 : Option Nat} {lg nx la : Nat} (h : T3 s xs ks s0) (e1 : nN s s0 = (lg, s1)) (e2 : nN s s1 = (nx, s2)) (e3 : nN s s2 = (la, s3)) :
    (s3 = none → decEd s = none) ∧ (∀ Z, s3 = some Z → 0 < s.size ∧ (edT ⟨xs, ks, lg, nx, la⟩ = s → decEd s = some ⟨xs, ks, lg, nx, la⟩) ∧ (edT ⟨xs, ks, lg, nx, la⟩ ≠ s → decEd s = none)) := by
  cases s0 with
  | none =>
    obtain ⟨rfl, -⟩ := nN_none e1
    obtain ⟨rfl, -⟩ := nN_none e2
    obtain ⟨rfl, -⟩ := nN_none e3
    exact ⟨fun _ => h.1 rfl, fun Z hZ => by cases hZ⟩
  | some A =>
    obtain ⟨n, c, B, m, d, j, i, h1, h2, h3, h4, h5, h6, h7, h8⟩ := h.2 A rfl
    have hpos : 0 < s.size := by
      have h1' : gv s ((0 : Nat) : Int) = some (n, c) := h1
      obtain ⟨_, a2, _, a4⟩ := gv_some h1'
      omega
    have bad : pZ s A = none → decEd s = none := fun hp => by
      rcases h3 with rfl | h3
      · rcases h7 with rfl | h7
        · exact none4 h1 h2 h5 h6 hp
        · exact none2 h1 h2 (fun m' d' h' => by rw [h5] at h'; cases h'; omega)
      · exact long0 h1 (by omega)
    rcases nN_some e1 with ⟨x1, g1, rfl⟩ | ⟨g1, rfl, -⟩
    · rcases nN_some e2 with ⟨x2, g2, rfl⟩ | ⟨g2, rfl, -⟩
      · rcases nN_some e3 with ⟨x3, g3, rfl⟩ | ⟨g3, rfl, -⟩
        · refine ⟨fun h => (by cases h), fun Z hZ => ⟨hpos, ?_⟩⟩
          have hpz : pZ s A = some (lg, nx, la, A + x1 + x2 + x3) := by simp only [pZ, g1, g2, g3]
          have h1' : gv s ((0 : Nat) : Int) = some (n, c) := h1
          obtain ⟨a1, a2, a3, a4⟩ := gv_some h1'
          rw [Nat.zero_add] at a1 a2
          have hxl := (pRs_some a2 h2).2.2.2.1
          have hcB := (gv_some h5).2.1
          have hkl := (pIs_some hcB h6).2.2.2
          cases hok : edOk ⟨xs, ks, lg, nx, la⟩ with
          | false =>
            rw [edT_bad hok]
            refine ⟨fun h => ?_, fun _ => ?_⟩
            · rw [← h] at hpos
              exact absurd hpos (by decide)
            · rcases h3 with rfl | h3
              · rcases h7 with rfl | h7
                · by_cases hn : 1000 < j
                  · exact long0 h1 hn
                  · by_cases hm : 1000 < i
                    · exact none2 h1 h2 (fun m' d' h' => by rw [h5] at h'; cases h'; exact hm)
                    · have := some4 h1 (by omega) h2 h5 (by omega) h6 hpz
                      simp only [decEd, this]
                      rw [if_neg (by rw [hok]; simp)]
                · exact none2 h1 h2 (fun m' d' h' => by rw [h5] at h'; cases h'; omega)
              · exact long0 h1 (by omega)
          | true =>
            obtain ⟨q1, -, q3, -⟩ := (edOk_iff _).1 hok
            dsimp only at q1 q3
            have hj : j = n := by omega
            have hi : i = m := by omega
            subst hj hi
            have hp := some4 h1 (by omega) h2 h5 (by omega) h6 hpz
            obtain ⟨b1, b2, -, -⟩ := ed_bytes h1 h2 h5 h6 hpz
            have hsame := ed_same b1 b2 hok
            refine ⟨fun h => ?_, fun h => ?_⟩
            · have hz := hsame.1 h
              simp only [decEd, hp]
              rw [if_pos ⟨hz, hok⟩]
            · simp only [decEd, hp]
              rw [if_neg (fun hh => h (hsame.2 hh.1))]
        · exact ⟨fun _ => bad (by simp only [pZ, g1, g2, g3]), fun Z hZ => by cases hZ⟩
      · obtain ⟨rfl, -⟩ := nN_none e3
        exact ⟨fun _ => bad (by simp only [pZ, g1, g2]), fun Z hZ => by cases hZ⟩
    · obtain ⟨rfl, -⟩ := nN_none e2
      obtain ⟨rfl, -⟩ := nN_none e3
      exact ⟨fun _ => bad (by simp only [pZ, g1]), fun Z hZ => by cases hZ⟩
theorem nK_size {s : ByteArray} {t : ByteArray} {st st' : Option Nat} (h : nK s st = (t, st')) : t.size ≤ s.size := by
  cases st with
  | none => cases h; exact Nat.zero_le _
  | some A =>
    simp only [nK] at h
    cases hg : pc s A with
    | none => rw [hg] at h; cases h; exact Nat.zero_le _
    | some q => obtain ⟨x, c⟩ := q; rw [hg] at h; cases h; exact (pc_some hg).2.2.2
theorem nN_le {s : ByteArray} {n : Nat} {st st' : Option Nat} (h : nN s st = (n, st')) : n ≤ 72057594037927935 := by
  cases st with
  | none => cases h; exact Nat.zero_le _
  | some A =>
    rcases nN_some h with ⟨c, hg, rfl⟩ | ⟨hg, rfl, rfl⟩
    · exact (gv_some hg).2.2.1
    · exact Nat.zero_le _
end Go.Proofs.YtphikgobdfknkaaGreatDoor
