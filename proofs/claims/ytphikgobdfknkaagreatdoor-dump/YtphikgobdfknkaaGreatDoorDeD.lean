import Derived.Test.YtphikgobdfknkaaGreatDoorDeW

namespace Go.Proofs.YtphikgobdfknkaaGreatDoor
open Go.RowKit Go.Maps
set_option linter.unusedVariables false
set_option linter.unusedSimpArgs false

/-- The world of the model's DecodeEdit: the answer, the reader, the edit. -/
structure Sp (w W : World) (s : ByteArray) (st : Option Nat) (va vd : Value) (a b c : Int) : Prop where
  hR : W.heap[w.heap.size]? = some (.cells #[.slice none 0 0, .slice none 0 0, .int .i64 0, .int .i64 0, .int .i64 0] 68 (0, 0))
  hP : W.heap[w.heap.size + 1]? = some (.cells #[.string s, .int .i64 (stV st)] 110 (0, 0))
  hQ : W.heap[w.heap.size + 1 + 1]? = some (.cells #[va, vd, .int .i64 a, .int .i64 b, .int .i64 c] 68 (0, 0))
  hb : Below w.heap.size w W
  hs : w.heap.size + 3 ≤ W.heap.size
theorem Sp.onto {w W W' : World} {s : ByteArray} {st : Option Nat} {va vd : Value} {a b c : Int} {B : Nat} (h : Sp w W s st va vd a b c) (hb : Below B W W') (hB : w.heap.size + 3 ≤ B) : Sp w W' s st va vd a b c :=
  ⟨(hb.block _ (by omega)).trans h.hR, (hb.block _ (by omega)).trans h.hP, (hb.block _ (by omega)).trans h.hQ, h.hb.trans (hb.mono (by omega)), Nat.le_trans h.hs hb.size⟩
theorem Sp.read {w W : World} {s : ByteArray} {st : Option Nat} {va vd : Value} {a b c : Int} (h : Sp w W s st va vd a b c) (st' : Option Nat) : Sp w ((W.setCell ⟨w.heap.size + 1, 0, none⟩ (.string s)).setCell ⟨w.heap.size + 1, 1, none⟩ (.int .i64 (stV st'))) s st' va vd a b c := by
  refine ⟨?_, ?_, ?_, ?_, by have := h.hs; simp [World.setCell]; omega⟩
  · rw [Below.heap_setCell _ _ _ _ (by dsimp only; omega), Below.heap_setCell _ _ _ _ (by dsimp only; omega)]; exact h.hR
  · rw [heap_setCell_same _ _ _ _ _ _ (heap_setCell_same _ _ _ _ _ _ h.hP)]; rfl
  · rw [Below.heap_setCell _ _ _ _ (by dsimp only; omega), Below.heap_setCell _ _ _ _ (by dsimp only; omega)]; exact h.hQ
  · exact below_set (by omega) (below_set (by omega) h.hb)
theorem Sp.q0 {w W : World} {s : ByteArray} {st : Option Nat} {va vd : Value} {a b c : Int} (h : Sp w W s st va vd a b c) (v : Value) : Sp w (W.setCell ⟨w.heap.size + 1 + 1, 0, none⟩ v) s st v vd a b c :=
  ⟨(Below.heap_setCell _ _ _ _ (by dsimp only; omega)).trans h.hR, (Below.heap_setCell _ _ _ _ (by dsimp only; omega)).trans h.hP, by rw [heap_setCell_same _ _ _ _ _ _ h.hQ]; rfl, below_set (by omega) h.hb, by have := h.hs; simp [World.setCell]; omega⟩
theorem Sp.q1 {w W : World} {s : ByteArray} {st : Option Nat} {va vd : Value} {a b c : Int} (h : Sp w W s st va vd a b c) (v : Value) : Sp w (W.setCell ⟨w.heap.size + 1 + 1, 1, none⟩ v) s st va v a b c :=
  ⟨(Below.heap_setCell _ _ _ _ (by dsimp only; omega)).trans h.hR, (Below.heap_setCell _ _ _ _ (by dsimp only; omega)).trans h.hP, by rw [heap_setCell_same _ _ _ _ _ _ h.hQ]; rfl, below_set (by omega) h.hb, by have := h.hs; simp [World.setCell]; omega⟩
theorem Sp.q2 {w W : World} {s : ByteArray} {st : Option Nat} {va vd : Value} {a b c : Int} (h : Sp w W s st va vd a b c) (x : Int) : Sp w (W.setCell ⟨w.heap.size + 1 + 1, 2, none⟩ (.int .i64 x)) s st va vd x b c :=
  ⟨(Below.heap_setCell _ _ _ _ (by dsimp only; omega)).trans h.hR, (Below.heap_setCell _ _ _ _ (by dsimp only; omega)).trans h.hP, by rw [heap_setCell_same _ _ _ _ _ _ h.hQ]; rfl, below_set (by omega) h.hb, by have := h.hs; simp [World.setCell]; omega⟩
theorem Sp.q3 {w W : World} {s : ByteArray} {st : Option Nat} {va vd : Value} {a b c : Int} (h : Sp w W s st va vd a b c) (x : Int) : Sp w (W.setCell ⟨w.heap.size + 1 + 1, 3, none⟩ (.int .i64 x)) s st va vd a x c :=
  ⟨(Below.heap_setCell _ _ _ _ (by dsimp only; omega)).trans h.hR, (Below.heap_setCell _ _ _ _ (by dsimp only; omega)).trans h.hP, by rw [heap_setCell_same _ _ _ _ _ _ h.hQ]; rfl, below_set (by omega) h.hb, by have := h.hs; simp [World.setCell]; omega⟩
theorem Sp.q4 {w W : World} {s : ByteArray} {st : Option Nat} {va vd : Value} {a b c : Int} (h : Sp w W s st va vd a b c) (x : Int) : Sp w (W.setCell ⟨w.heap.size + 1 + 1, 4, none⟩ (.int .i64 x)) s st va vd a b x :=
  ⟨(Below.heap_setCell _ _ _ _ (by dsimp only; omega)).trans h.hR, (Below.heap_setCell _ _ _ _ (by dsimp only; omega)).trans h.hP, by rw [heap_setCell_same _ _ _ _ _ _ h.hQ]; rfl, below_set (by omega) h.hb, by have := h.hs; simp [World.setCell]; omega⟩
theorem owns_read {w W : World} {n size : Nat} {e : TypeId} {v : Value} {xs : List Value} {s : ByteArray} {z : Int} (h : W.ownsRow (w.heap.size + 3) e size v n xs) : ((W.setCell ⟨w.heap.size + 1, 0, none⟩ (.string s)).setCell ⟨w.heap.size + 1, 1, none⟩ (.int .i64 z)).ownsRow (w.heap.size + 3) e size v n xs := owns_set (owns_set h (by omega)) (by omega)

set_option maxRecDepth 100000 in
set_option maxHeartbeats 4000000 in
theorem specDecEd_any (s : ByteArray) (w : World) (hs : s.size ≤ 1048576) :
    Calls Tryz.prog 30 #[.string s] w fun r w' => ∃ (a : Option Addr) (ca : Nat) (d : Option Addr) (cd : Nat), r = .returned (.tuple #[edV a ca d cd (edR s), .bool (decEd s).isSome]) ∧ ResT w' w.heap.size a (edR s).ad ∧ ResI w' w.heap.size d (edR s).dl ∧ Below w.heap.size w w' := by
  obtain ⟨i0, hi, hz0, hz1, hz2⟩ := info_parts iRef_info
  obtain ⟨j0, ji, jz0, jz1, jz2⟩ := info_parts int_info
  generalize hD : decEd s = D
  have HD : Hid (decEd s = D) := hD
  have HR : Hid (edR s = D.getD ed0) := by show _ = _; rw [edR, hD]
  clear hD
  generalize edR s = E at *
  generalize hW0 : ((w.alloc (.cells #[.slice none 0 0, .slice none 0 0, .int .i64 0, .int .i64 0, .int .i64 0] 68)).alloc (.cells #[.string s, .int .i64 0] 110)).alloc (.cells #[.slice none 0 0, .slice none 0 0, .int .i64 0, .int .i64 0, .int .i64 0] 68) = W0
  have hsp0 : Sp w W0 s (some 0) (.slice none 0 0) (.slice none 0 0) 0 0 0 := by
    rw [← hW0]
    refine ⟨?_, ?_, ?_, (((Below.refl _ _).alloc (Nat.le_refl _) _).alloc (by simp) _).alloc (by simp; omega) _, by simp⟩
    · rw [alloc_old (by simp; omega), alloc_old (by simp)]; exact World.heap_alloc_new _ _
    · rw [alloc_old (by simp), ← size_alloc]; exact World.heap_alloc_new _ _
    · have h := World.heap_alloc_new ((w.alloc (.cells #[.slice none 0 0, .slice none 0 0, .int .i64 0, .int .i64 0, .int .i64 0] 68)).alloc (.cells #[.string s, .int .i64 0] 110)) (.cells #[.slice none 0 0, .slice none 0 0, .int .i64 0, .int .i64 0, .int .i64 0] 68)
      rwa [size_alloc, size_alloc] at h
  have HW0 := hd hW0
  clear hW0
  have HN := hd (fun (st : Option Nat) (w : World) => l4Number_any s st w hs)
  have HK := hd (fun (st : Option Nat) (w : World) => l4Key_any s st w hs)
  go_enter Tryz.func30, Tryz.ntmps30
  go_wp2_with fail
  rw [HW0.out]
  refine (HN.out (some 0) W0).mono ?_
  rintro r w1 ⟨rfl, hb1⟩
  have hsp1 := hsp0.onto hb1 hsp0.hs
  clear hsp0 hb1
  generalize e0 : nN s (some 0) = q0
  obtain ⟨n, st0⟩ := q0
  have HT0 := hd (T1_zero e0)
  have hn0 := nN_le e0
  clear e0
  dsimp only
  obtain ⟨c0, c1, z0, z1⟩ := two_cells hsp1.hP
  have hsp2 := hsp1.read st0
  have how2 := ownsNil ((w1.setCell ⟨w.heap.size + 1, 0, none⟩ (.string s)).setCell ⟨w.heap.size + 1, 1, none⟩ (.int .i64 (stV st0))) (w.heap.size + 3) 45 4
  have hl1 : w.heap.size + 1 < w1.heap.size := by have := hsp1.hs; omega
  clear hsp1
  go_wp2_with fail
  go_loopw [8] (fun y wr => ∃ (k : Nat) (st : Option Nat) (xs : List Tr) (v : Value), y = .int .i64 k ∧ k ≤ n ∧ k ≤ 1001 ∧ Hid (T1 s n k xs st) ∧ Hid (xs.length = k) ∧ Hid (∀ t ∈ xs, t.lo.size ≤ s.size ∧ t.hi.size ≤ s.size) ∧ Sp w wr s st v (.slice none 0 0) 0 0 0 ∧ wr.ownsRow (w.heap.size + 3) 45 4 v k (cellsT xs)) (fun y _ => n - (intOf y).toNat)
  case atStart => exact ⟨0, st0, [], .slice none 0 0, rfl, by omega, by omega, HT0, rfl, fun t ht => absurd ht (by simp), hsp2, how2⟩
  case round =>
    clear hsp2 how2 c0 c1 z0 z1 hl1 HT0
    obtain ⟨k, st, xs, v, rfl, hk, hk2, HT1, HL, HX, hsp, hown⟩ := hrel
    have hsz := hsp.hs
    obtain ⟨c0, c1, z0, z1⟩ := two_cells hsp.hP
    have hlP : w.heap.size + 1 < wr.heap.size := by omega
    by_cases hgo : k < n ∧ k ≤ 1000 ∧ st ≠ none
    · obtain ⟨hlt, hle, hst⟩ := hgo
      obtain ⟨A, rfl⟩ : ∃ A, st = some A := by cases st with | none => exact absurd rfl hst | some A => exact ⟨A, rfl⟩
      have g1 : (k : Int) < n := by omega
      have g2 : (k : Int) ≤ 1000 := by omega
      have g3 : (0 : Int) ≤ stV (some A) := by show (0 : Int) ≤ (A : Int); omega
      clear hst
      go_wp2_with fail
      refine (HN.out (some A) _).mono ?_
      rintro r w1 ⟨rfl, hb1⟩
      have hsp1 := hsp.onto hb1 hsp.hs
      have hown1 := owns_below hown hb1
      clear hsp hb1 hown c0 c1 z0 z1
      generalize e1 : nN s (some A) = q1
      obtain ⟨nu, s1⟩ := q1
      dsimp only
      obtain ⟨c0, c1, z0, z1⟩ := two_cells hsp1.hP
      have hlP : w.heap.size + 1 < w1.heap.size := by have := hsp1.hs; omega
      have hsp := hsp1.read s1
      have hown := owns_read (s := s) (z := stV s1) hown1
      have hsX : ((w1.setCell ⟨w.heap.size + 1, 0, none⟩ (.string s)).setCell ⟨w.heap.size + 1, 1, none⟩ (.int .i64 (stV s1))).heap.size = w1.heap.size := by simp [World.setCell]
      clear hsp1 hown1
      obtain ⟨d0, d1, -, -⟩ := two_cells hsp.hP
      go_wp2_with fail
      generalize (w1.setCell ⟨w.heap.size + 1, 0, none⟩ (.string s)).setCell ⟨w.heap.size + 1, 1, none⟩ (.int .i64 (stV s1)) = X1 at *
      clear c0 c1 z0 z1 hlP hsX
      obtain ⟨c0, c1, z0, z1⟩ := two_cells hsp.hP
      clear d0 d1
      refine (HN.out s1 _).mono ?_
      rintro r w2 ⟨rfl, hb2⟩
      have hsp2 := hsp.onto hb2 hsp.hs
      have hown2 := owns_below hown hb2
      clear hsp hb2 hown c0 c1 z0 z1
      generalize e2 : nN s s1 = q2
      obtain ⟨lv, s2⟩ := q2
      dsimp only
      obtain ⟨c0, c1, z0, z1⟩ := two_cells hsp2.hP
      have hlP : w.heap.size + 1 < w2.heap.size := by have := hsp2.hs; omega
      have hsp := hsp2.read s2
      have hown := owns_read (s := s) (z := stV s2) hown2
      have hsX : ((w2.setCell ⟨w.heap.size + 1, 0, none⟩ (.string s)).setCell ⟨w.heap.size + 1, 1, none⟩ (.int .i64 (stV s2))).heap.size = w2.heap.size := by simp [World.setCell]
      clear hsp2 hown2
      obtain ⟨d0, d1, -, -⟩ := two_cells hsp.hP
      go_wp2_with fail
      generalize (w2.setCell ⟨w.heap.size + 1, 0, none⟩ (.string s)).setCell ⟨w.heap.size + 1, 1, none⟩ (.int .i64 (stV s2)) = X2 at *
      clear c0 c1 z0 z1 hlP hsX
      obtain ⟨c0, c1, z0, z1⟩ := two_cells hsp.hP
      clear d0 d1
      refine (HK.out s2 _).mono ?_
      rintro r w3 ⟨rfl, hb3⟩
      have hsp3 := hsp.onto hb3 hsp.hs
      have hown3 := owns_below hown hb3
      clear hsp hb3 hown c0 c1 z0 z1
      generalize e3 : nK s s2 = q3
      obtain ⟨lo, s3⟩ := q3
      dsimp only
      obtain ⟨c0, c1, z0, z1⟩ := two_cells hsp3.hP
      have hlP : w.heap.size + 1 < w3.heap.size := by have := hsp3.hs; omega
      have hsp := hsp3.read s3
      have hown := owns_read (s := s) (z := stV s3) hown3
      have hsX : ((w3.setCell ⟨w.heap.size + 1, 0, none⟩ (.string s)).setCell ⟨w.heap.size + 1, 1, none⟩ (.int .i64 (stV s3))).heap.size = w3.heap.size := by simp [World.setCell]
      clear hsp3 hown3
      obtain ⟨d0, d1, -, -⟩ := two_cells hsp.hP
      go_wp2_with fail
      generalize (w3.setCell ⟨w.heap.size + 1, 0, none⟩ (.string s)).setCell ⟨w.heap.size + 1, 1, none⟩ (.int .i64 (stV s3)) = X3 at *
      clear c0 c1 z0 z1 hlP hsX
      obtain ⟨c0, c1, z0, z1⟩ := two_cells hsp.hP
      clear d0 d1
      refine (HK.out s3 _).mono ?_
      rintro r w4 ⟨rfl, hb4⟩
      have hsp4 := hsp.onto hb4 hsp.hs
      have hown4 := owns_below hown hb4
      clear hsp hb4 hown c0 c1 z0 z1
      generalize e4 : nK s s3 = q4
      obtain ⟨hi', s4⟩ := q4
      dsimp only
      obtain ⟨c0, c1, z0, z1⟩ := two_cells hsp4.hP
      have hlP : w.heap.size + 1 < w4.heap.size := by have := hsp4.hs; omega
      have hsp := hsp4.read s4
      have hown := owns_read (s := s) (z := stV s4) hown4
      have hsX : ((w4.setCell ⟨w.heap.size + 1, 0, none⟩ (.string s)).setCell ⟨w.heap.size + 1, 1, none⟩ (.int .i64 (stV s4))).heap.size = w4.heap.size := by simp [World.setCell]
      clear hsp4 hown4
      have HT' := hd (T1_succ HT1.out hlt e1 e2 e3 e4)
      have hlo := nK_size e3
      have hhi := nK_size e4
      have HX' : Hid (∀ t ∈ xs ++ [(⟨nu, lv, lo, hi'⟩ : Tr)], t.lo.size ≤ s.size ∧ t.hi.size ≤ s.size) := fun t ht => by
        rcases List.mem_append.1 ht with ht | ht
        · exact HX.out t ht
        · simp only [List.mem_singleton] at ht
          subst ht
          exact ⟨hlo, hhi⟩
      have HL' : Hid ((xs ++ [(⟨nu, lv, lo, hi'⟩ : Tr)]).length = k + 1) := by show _ = _; rw [List.length_append, HL.out]; rfl
      clear e1 e2 e3 e4 HT1 HX HL
      obtain ⟨y0, y1, y2, y3, y4⟩ := five_cells hsp.hQ
      have hlQ : w.heap.size + 1 + 1 < w4.heap.size := by have := hsp.hs; omega
      have HF : Hid (∀ j v, [Value.int .i64 nu, .int .i64 lv, .string lo, .string hi'][j]? = some v → (((w4.setCell ⟨w.heap.size + 1, 0, none⟩ (.string s)).setCell ⟨w.heap.size + 1, 1, none⟩ (.int .i64 (stV s4))).alloc (.cells #[.int .i64 nu, .int .i64 lv, .string lo, .string hi'] 45)).cell? ((⟨w4.heap.size, 0, none⟩ : Addr).add j) = some v) := by
        have h := cell_first4 ((w4.setCell ⟨w.heap.size + 1, 0, none⟩ (.string s)).setCell ⟨w.heap.size + 1, 1, none⟩ (.int .i64 (stV s4))) (.int .i64 nu) (.int .i64 lv) (.string lo) (.string hi') 45
        rw [hsX] at h
        exact h
      have HW := hd hown
      have HSP := hd hsp
      have hsz4 : w.heap.size + 3 ≤ ((w4.setCell ⟨w.heap.size + 1, 0, none⟩ (.string s)).setCell ⟨w.heap.size + 1, 1, none⟩ (.int .i64 (stV s4))).heap.size := hsp.hs
      have HZ4 := hd hsz4
      clear hown hsp hsz4
      go_wp2_with (at_builtin; refine wpList_append_own _ rfl _ _ 38 rfl (w.heap.size + 3) 45 i0 _ 4 48 Tryz.underlying38 hi hz0 hz1 hz2 rfl (by decide) _ _ _ rfl (World.ownsRow.alloc HW.out _) ⟨w4.heap.size, 0, none⟩ 1 1 [.int .i64 nu, .int .i64 lv, .string lo, .string hi'] rfl rfl HF.out (fun x hx => by simp at hx; rcases hx with rfl | rfl | rfl | rfl <;> rfl) (by unfold maxLen; omega) (by omega) (by have := HZ4.out; rw [size_alloc]; omega) ?_; intro v8 w8 hown8 hgrow8 hnil8; obtain ⟨g8, cap8, rfl⟩ := owns_succ hown8; have hb48 : Below (w.heap.size + 3) ((w4.setCell ⟨w.heap.size + 1, 0, none⟩ (.string s)).setCell ⟨w.heap.size + 1, 1, none⟩ (.int .i64 (stV s4))) w8 := ((Below.refl (w.heap.size + 3) ((w4.setCell ⟨w.heap.size + 1, 0, none⟩ (.string s)).setCell ⟨w.heap.size + 1, 1, none⟩ (.int .i64 (stV s4)))).alloc HZ4.out _).grown hgrow8 (by have := HZ4.out; rw [size_alloc]; omega) (owns_base HW.out); have hsp8 := HSP.out.onto hb48 (Nat.le_refl _); have t0 := (five_cells hsp8.hQ).1; have u0 := (five_free hsp8.hQ).1; have HSP8 := hd hsp8; have HW8 := hd hown8; clear hsp8 hown8 hgrow8 hnil8 hb48)
      exact ⟨⟨k + 1, s4, xs ++ [⟨nu, lv, lo, hi'⟩], .slice (some ⟨g8, 0, none⟩) (k + 1) cap8, by go_num, by omega, by omega, HT', HL', HX', HSP8.out.q0 _, by rw [cellsT_snoc]; exact owns_set HW8.out (by omega)⟩, by simp [intOf]; omega⟩
    · have hz : (¬ (k : Int) < n) ∨ ((k : Int) < n ∧ ¬ (k : Int) ≤ 1000) ∨ ((k : Int) < n ∧ (k : Int) ≤ 1000 ∧ ¬ (0 : Int) ≤ stV st) := by
        by_cases h1 : k < n
        · by_cases h2 : k ≤ 1000
          · refine .inr (.inr ⟨by omega, by omega, ?_⟩)
            have h3 : st = none := by
              cases st with
              | none => rfl
              | some A => exact absurd ⟨h1, h2, by simp⟩ hgo
            rw [h3]
            decide
          · exact .inr (.inl ⟨by omega, by omega⟩)
        · exact .inl (by omega)
      have HEND : Hid (st = none ∨ k = n ∨ 1000 < k) := by
        by_cases h1 : k < n
        · by_cases h2 : k ≤ 1000
          · refine .inl ?_
            cases st with
            | none => rfl
            | some A => exact absurd ⟨h1, h2, by simp⟩ hgo
          · exact .inr (.inr (by omega))
        · exact .inr (.inl (by omega))
      clear hgo
      rcases hz with g1 | ⟨g1, g2⟩ | ⟨g1, g2, g3⟩
      all_goals
        go_wp2_with fail
        refine (HN.out st _).mono ?_
        rintro r w5 ⟨rfl, hb5⟩
        have hsp5 := hsp.onto hb5 hsp.hs
        have hown5 := owns_below hown hb5
        clear hsp hb5 hown c0 c1 z0 z1
        generalize e5 : nN s st = q5
        obtain ⟨m, s5⟩ := q5
        dsimp only
        obtain ⟨c0, c1, z0, z1⟩ := two_cells hsp5.hP
        have hlP : w.heap.size + 1 < w5.heap.size := by have := hsp5.hs; omega
        have hsp := hsp5.read s5
        have hown := owns_read (s := s) (z := stV s5) hown5
        have hsX : ((w5.setCell ⟨w.heap.size + 1, 0, none⟩ (.string s)).setCell ⟨w.heap.size + 1, 1, none⟩ (.int .i64 (stV s5))).heap.size = w5.heap.size := by simp [World.setCell]
        clear hsp5 hown5
        have HT2 := hd (T2_zero HT1.out hk HEND.out e5)
        have hm0 := nN_le e5
        clear e5 HT1 HEND
        have hownu := ownsNil ((w5.setCell ⟨w.heap.size + 1, 0, none⟩ (.string s)).setCell ⟨w.heap.size + 1, 1, none⟩ (.int .i64 (stV s5))) (w.heap.size + 3) 3 1
        go_wp2_with fail
        go_loopw [13] (fun y wr => ∃ (k' : Nat) (st : Option Nat) (ks : List Int) (u : Value), y = .int .i64 k' ∧ k' ≤ m ∧ k' ≤ 1001 ∧ Hid (T2 s m k' xs ks st) ∧ Hid (ks.length = k') ∧ Sp w wr s st v u 0 0 0 ∧ wr.ownsRow (w.heap.size + 3) 45 4 v k (cellsT xs) ∧ wr.ownsRow (w.heap.size + 3) 3 1 u k' (ic ks)) (fun y _ => m - (intOf y).toNat)
        case atStart => exact ⟨0, s5, [], .slice none 0 0, rfl, by omega, by omega, HT2, rfl, hsp, hown, hownu⟩
        case round =>
          clear hsp hown hownu c0 c1 z0 z1 hlP hsX HT2
          obtain ⟨k', st, ks, u, rfl, hk', hk2', HT2, HKL, hsp, hown, hownu⟩ := hrel
          have hsz := hsp.hs
          obtain ⟨c0, c1, z0, z1⟩ := two_cells hsp.hP
          have hlP : w.heap.size + 1 < wr.heap.size := by omega
          by_cases hgo : k' < m ∧ k' ≤ 1000 ∧ st ≠ none
          · obtain ⟨hlt, hle, hst⟩ := hgo
            obtain ⟨A, rfl⟩ : ∃ A, st = some A := by cases st with | none => exact absurd rfl hst | some A => exact ⟨A, rfl⟩
            have i1 : (k' : Int) < m := by omega
            have i2 : (k' : Int) ≤ 1000 := by omega
            have i3 : (0 : Int) ≤ stV (some A) := by show (0 : Int) ≤ (A : Int); omega
            clear hst
            go_wp2_with fail
            refine (HN.out (some A) _).mono ?_
            rintro r w6 ⟨rfl, hb6⟩
            have hsp6 := hsp.onto hb6 hsp.hs
            have hown6 := owns_below hown hb6
            have hownu6 := owns_below hownu hb6
            clear hsp hb6 hown hownu c0 c1 z0 z1
            generalize e6 : nN s (some A) = q6
            obtain ⟨x, s6⟩ := q6
            dsimp only
            obtain ⟨c0, c1, z0, z1⟩ := two_cells hsp6.hP
            have hlP : w.heap.size + 1 < w6.heap.size := by have := hsp6.hs; omega
            have hsp := hsp6.read s6
            have hown := owns_read (s := s) (z := stV s6) hown6
            have hownu := owns_read (s := s) (z := stV s6) hownu6
            have hsX : ((w6.setCell ⟨w.heap.size + 1, 0, none⟩ (.string s)).setCell ⟨w.heap.size + 1, 1, none⟩ (.int .i64 (stV s6))).heap.size = w6.heap.size := by simp [World.setCell]
            clear hsp6 hown6 hownu6
            have HT' := hd (T2_succ HT2.out hlt e6)
            have HL' : Hid ((ks ++ [(x : Int)]).length = k' + 1) := by show _ = _; rw [List.length_append, HKL.out]; rfl
            clear e6 HT2 HKL
            obtain ⟨y0, y1, y2, y3, y4⟩ := five_cells hsp.hQ
            have hlQ : w.heap.size + 1 + 1 < w6.heap.size := by have := hsp.hs; omega
            have HF : Hid (∀ j v, [Value.int .i64 x][j]? = some v → (((w6.setCell ⟨w.heap.size + 1, 0, none⟩ (.string s)).setCell ⟨w.heap.size + 1, 1, none⟩ (.int .i64 (stV s6))).alloc (.cells #[.int .i64 x] 3)).cell? ((⟨w6.heap.size, 0, none⟩ : Addr).add j) = some v) := by
              have h := cell_first1 ((w6.setCell ⟨w.heap.size + 1, 0, none⟩ (.string s)).setCell ⟨w.heap.size + 1, 1, none⟩ (.int .i64 (stV s6))) (.int .i64 x) 3
              rw [hsX] at h
              exact h
            have HW := hd hownu
            have HV := hd hown
            have HSP := hd hsp
            have hsz4 : w.heap.size + 3 ≤ ((w6.setCell ⟨w.heap.size + 1, 0, none⟩ (.string s)).setCell ⟨w.heap.size + 1, 1, none⟩ (.int .i64 (stV s6))).heap.size := hsp.hs
            have HZ4 := hd hsz4
            clear hown hownu hsp hsz4
            go_wp2_with (at_builtin; refine wpList_append_own _ rfl _ _ 66 rfl (w.heap.size + 3) 3 j0 _ 1 8 Tryz.underlying66 ji jz0 jz1 jz2 rfl (by decide) _ _ _ rfl (World.ownsRow.alloc HW.out _) ⟨w6.heap.size, 0, none⟩ 1 1 [.int .i64 x] rfl rfl HF.out (fun x hx => by simp at hx; subst hx; rfl) (by unfold maxLen; omega) (by omega) (by have := HZ4.out; rw [size_alloc]; omega) ?_; intro v8 w8 hown8 hgrow8 hnil8; obtain ⟨g8, cap8, rfl⟩ := owns_succ hown8; have hb48 : Below (w.heap.size + 3) ((w6.setCell ⟨w.heap.size + 1, 0, none⟩ (.string s)).setCell ⟨w.heap.size + 1, 1, none⟩ (.int .i64 (stV s6))) w8 := ((Below.refl (w.heap.size + 3) ((w6.setCell ⟨w.heap.size + 1, 0, none⟩ (.string s)).setCell ⟨w.heap.size + 1, 1, none⟩ (.int .i64 (stV s6)))).alloc HZ4.out _).grown hgrow8 (by have := HZ4.out; rw [size_alloc]; omega) (owns_base HW.out); have HV8 := hd (owns_blocks (World.ownsRow.alloc HV.out _) (fun g hg => hgrow8.block g (owns_lt (World.ownsRow.alloc HV.out _) g hg) (fun e => owns_ne HV.out HW.out (by decide) g hg e.symm))); have hsp8 := HSP.out.onto hb48 (Nat.le_refl _); have t0 := (five_cells hsp8.hQ).2.1; have u0 := (five_free hsp8.hQ).2.1; have HSP8 := hd hsp8; have HW8 := hd hown8; clear hsp8 hown8 hgrow8 hnil8 hb48)
            exact ⟨⟨k' + 1, s6, ks ++ [(x : Int)], .slice (some ⟨g8, 0, none⟩) (k' + 1) cap8, by go_num, by omega, by omega, HT', HL', HSP8.out.q1 _, owns_set HV8.out (by omega), by rw [ic_snoc]; exact owns_set HW8.out (by omega)⟩, by simp [intOf]; omega⟩
          · have hz : (¬ (k' : Int) < m) ∨ ((k' : Int) < m ∧ ¬ (k' : Int) ≤ 1000) ∨ ((k' : Int) < m ∧ (k' : Int) ≤ 1000 ∧ ¬ (0 : Int) ≤ stV st) := by
              by_cases h1 : k' < m
              · by_cases h2 : k' ≤ 1000
                · refine .inr (.inr ⟨by omega, by omega, ?_⟩)
                  have h3 : st = none := by
                    cases st with
                    | none => rfl
                    | some A => exact absurd ⟨h1, h2, by simp⟩ hgo
                  rw [h3]
                  decide
                · exact .inr (.inl ⟨by omega, by omega⟩)
              · exact .inl (by omega)
            have HEND : Hid (st = none ∨ k' = m ∨ 1000 < k') := by
              by_cases h1 : k' < m
              · by_cases h2 : k' ≤ 1000
                · refine .inl ?_
                  cases st with
                  | none => rfl
                  | some A => exact absurd ⟨h1, h2, by simp⟩ hgo
                · exact .inr (.inr (by omega))
              · exact .inr (.inl (by omega))
            have HT3 := hd (T3_of HT2.out hk' HEND.out)
            obtain ⟨hn1, a, ca, rfl, -⟩ := resT_of_owns hown
            obtain ⟨hn2, d, cd, rfl, -⟩ := resI_of_owns hownu
            have HFX : Hid (FitsT xs) := fun t ht => by have := HX.out t ht; unfold maxLen; omega
            have hlx : xs.length ≤ 1048576 := by omega
            have hlk : ks.length ≤ 1048576 := by omega
            have HSE := hd (fun (lg nx la : Nat) (W : World) (h1 : LieT W a xs) (h2 : LieI W d ks) => specEncEd_any a ca d cd ⟨xs, ks, lg, nx, la⟩ W h1 HFX.out h2 hlx hlk)
            clear hgo HT2 HEND HX HL HKL HFX
            rcases hz with i1 | ⟨i1, i2⟩ | ⟨i1, i2, i3⟩
            all_goals
              go_wp2_with fail
              refine (HN.out st _).mono ?_
              rintro r w7 ⟨rfl, hb7⟩
              have hsp7 := hsp.onto hb7 hsp.hs
              have hown7 := owns_below hown hb7
              have hownu7 := owns_below hownu hb7
              clear hsp hb7 hown hownu c0 c1 z0 z1
              generalize e7 : nN s st = q7
              obtain ⟨lg, s7⟩ := q7
              dsimp only
              obtain ⟨c0, c1, z0, z1⟩ := two_cells hsp7.hP
              have hlP : w.heap.size + 1 < w7.heap.size := by have := hsp7.hs; omega
              have hsp := hsp7.read s7
              have hown := owns_read (s := s) (z := stV s7) hown7
              have hownu := owns_read (s := s) (z := stV s7) hownu7
              have hsX : ((w7.setCell ⟨w.heap.size + 1, 0, none⟩ (.string s)).setCell ⟨w.heap.size + 1, 1, none⟩ (.int .i64 (stV s7))).heap.size = w7.heap.size := by simp [World.setCell]
              clear hsp7 hown7 hownu7
              obtain ⟨d0, d1, -, -⟩ := two_cells hsp.hP
              go_wp2_with fail
              generalize (w7.setCell ⟨w.heap.size + 1, 0, none⟩ (.string s)).setCell ⟨w.heap.size + 1, 1, none⟩ (.int .i64 (stV s7)) = X7 at *
              clear c0 c1 z0 z1 hlP hsX
              obtain ⟨c0, c1, z0, z1⟩ := two_cells hsp.hP
              clear d0 d1
              refine (HN.out s7 _).mono ?_
              rintro r w8 ⟨rfl, hb8⟩
              have hsp8 := hsp.onto hb8 hsp.hs
              have hown8 := owns_below hown hb8
              have hownu8 := owns_below hownu hb8
              clear hsp hb8 hown hownu c0 c1 z0 z1
              generalize e8 : nN s s7 = q8
              obtain ⟨nx, s8⟩ := q8
              dsimp only
              obtain ⟨c0, c1, z0, z1⟩ := two_cells hsp8.hP
              have hlP : w.heap.size + 1 < w8.heap.size := by have := hsp8.hs; omega
              have hsp := hsp8.read s8
              have hown := owns_read (s := s) (z := stV s8) hown8
              have hownu := owns_read (s := s) (z := stV s8) hownu8
              have hsX : ((w8.setCell ⟨w.heap.size + 1, 0, none⟩ (.string s)).setCell ⟨w.heap.size + 1, 1, none⟩ (.int .i64 (stV s8))).heap.size = w8.heap.size := by simp [World.setCell]
              clear hsp8 hown8 hownu8
              obtain ⟨d0, d1, -, -⟩ := two_cells hsp.hP
              go_wp2_with fail
              generalize (w8.setCell ⟨w.heap.size + 1, 0, none⟩ (.string s)).setCell ⟨w.heap.size + 1, 1, none⟩ (.int .i64 (stV s8)) = X8 at *
              clear c0 c1 z0 z1 hlP hsX
              obtain ⟨c0, c1, z0, z1⟩ := two_cells hsp.hP
              clear d0 d1
              refine (HN.out s8 _).mono ?_
              rintro r w9 ⟨rfl, hb9⟩
              have hsp9 := hsp.onto hb9 hsp.hs
              have hown9 := owns_below hown hb9
              have hownu9 := owns_below hownu hb9
              clear hsp hb9 hown hownu c0 c1 z0 z1
              generalize e9 : nN s s8 = q9
              obtain ⟨la, s9⟩ := q9
              dsimp only
              obtain ⟨c0, c1, z0, z1⟩ := two_cells hsp9.hP
              have hlP : w.heap.size + 1 < w9.heap.size := by have := hsp9.hs; omega
              have hsp := hsp9.read s9
              have hown := owns_read (s := s) (z := stV s9) hown9
              have hownu := owns_read (s := s) (z := stV s9) hownu9
              have hsX : ((w9.setCell ⟨w.heap.size + 1, 0, none⟩ (.string s)).setCell ⟨w.heap.size + 1, 1, none⟩ (.int .i64 (stV s9))).heap.size = w9.heap.size := by simp [World.setCell]
              obtain ⟨a0, a1, a2, a3, a4⟩ := five_cells hsp9.hQ
              obtain ⟨b0, b1, b2, b3, b4⟩ := five_free hsp9.hQ
              obtain ⟨m0, m1, m2, m3, m4⟩ := five_cells hsp9.hR
              obtain ⟨o0, o1, o2, o3, o4⟩ := five_free hsp9.hR
              have hlQ : w.heap.size + 1 + 1 < w9.heap.size := by have := hsp9.hs; omega
              have hlR : w.heap.size < w9.heap.size := by omega
              have HB9 := hd hsp9.hb
              clear hsp9 hown9 hownu9
              have HE := hd (T3_end HT3.out e7 e8 e9)
              have hspY := ((hsp.q2 (lg : Int)).q3 (nx : Int)).q4 (la : Int)
              have hownY := owns_set (p := w.heap.size + 1 + 1) (o := 4) (u := .int .i64 (la : Int)) (owns_set (p := w.heap.size + 1 + 1) (o := 3) (u := .int .i64 (nx : Int)) (owns_set (p := w.heap.size + 1 + 1) (o := 2) (u := .int .i64 (lg : Int)) hown (by omega)) (by omega)) (by omega)
              have hownuY := owns_set (p := w.heap.size + 1 + 1) (o := 4) (u := .int .i64 (la : Int)) (owns_set (p := w.heap.size + 1 + 1) (o := 3) (u := .int .i64 (nx : Int)) (owns_set (p := w.heap.size + 1 + 1) (o := 2) (u := .int .i64 (lg : Int)) hownu (by omega)) (by omega)) (by omega)
              have HSP := hd hspY
              have HV := hd hownY
              have HU := hd hownuY
              clear hsp hown hownu hspY hownY hownuY e7 e8 e9 HT3
              cases s9 with
              | none =>
                have hDn := HD.out.symm.trans (HE.out.1 rfl)
                have hEe : E = ed0 := by rw [HR.out, hDn]; rfl
                clear HD HR HE
                subst hDn hEe
                have g9 : stV none < 0 := by decide
                go_wp2_with fail
                refine bodyPost_ret (v := .tuple #[edV none 0 none 0 ed0, .bool false]) (by simp [results, Tryz.results30, go_sem, m0, m1, m2, m3, m4, ed0]) rfl ?_
                first | refine ⟨none, 0, none, 0, rfl, .inl rfl, .inl rfl, ?_⟩ | refine ⟨none, 0, none, ⟨0, rfl⟩, .inl rfl, .inl rfl, ?_⟩
                repeat refine below_set (by omega) ?_
                exact HB9.out
              | some Z =>
                obtain ⟨hpos, hE1, hE2⟩ := HE.out.2 Z rfl
                replace hE1 := hd hE1
                replace hE2 := hd hE2
                have g9 : ¬ stV (some Z) < 0 := by show ¬ (Z : Int) < 0; omega
                have g10 : ((s.size : Int) == 0) = false := by rw [beq_eq_false_iff_ne]; omega
                go_wp2_with fail
                refine (HSE.out lg nx la _ (by obtain ⟨-, a', ca', e, hr⟩ := resT_of_owns HV.out; cases e; exact hr.lie) (by obtain ⟨-, a', ca', e, hr⟩ := resI_of_owns HU.out; cases e; exact hr.lie)).mono ?_
                rintro r w10 ⟨rfl, hb10⟩
                have hsp10 := HSP.out.onto hb10 HSP.out.hs
                have hown10 := owns_below HV.out hb10
                have hownu10 := owns_below HU.out hb10
                clear a0 a1 a2 a3 a4 b0 b1 b2 b3 b4 m0 m1 m2 m3 m4 o0 o1 o2 o3 o4 c0 c1 z0 z1 hb10 HSP HV HU
                obtain ⟨a0, a1, a2, a3, a4⟩ := five_cells hsp10.hQ
                obtain ⟨m0, m1, m2, m3, m4⟩ := five_cells hsp10.hR
                obtain ⟨o0, o1, o2, o3, o4⟩ := five_free hsp10.hR
                have hs10 := hsp10.hs
                have HSP := hd hsp10
                have HV := hd hown10
                have HU := hd hownu10
                clear hsp10 hown10 hownu10
                by_cases hsame : edT ⟨xs, ks, lg, nx, la⟩ = s
                · have hDs : D = some ⟨xs, ks, lg, nx, la⟩ := HD.out.symm.trans (hE1.out hsame)
                  have hEe : E = ⟨xs, ks, lg, nx, la⟩ := by rw [HR.out, hDs]; rfl
                  clear HD HR HE hE1 hE2
                  subst hDs hEe
                  rw [hsame]
                  have HSA := hd hsame
                  clear hsame
                  go_wp2_with fail
                  refine bodyPost_ret (v := .tuple #[edV a ca d cd ⟨xs, ks, lg, nx, la⟩, .bool true]) (by simp [results, Tryz.results30, go_sem, a0, a1, a2, a3, a4, m0, m1, m2, m3, m4]) rfl ?_
                  first | refine ⟨a, ca, d, cd, rfl, ResT.wide (B := w.heap.size + 3) ?_ (by omega), ResI.wide (B := w.heap.size + 3) ?_ (by omega), ?_⟩ | refine ⟨a, ca, d, ⟨cd, rfl⟩, ResT.wide (B := w.heap.size + 3) ?_ (by omega), ResI.wide (B := w.heap.size + 3) ?_ (by omega), ?_⟩
                  · repeat refine ResT.set (by omega) ?_
                    obtain ⟨-, a', ca', e, hr⟩ := resT_of_owns HV.out
                    cases e
                    exact hr
                  · repeat refine ResI.set (by omega) ?_
                    obtain ⟨-, a', ca', e, hr⟩ := resI_of_owns HU.out
                    cases e
                    exact hr
                  · repeat refine below_set (by omega) ?_
                    exact HSP.out.hb
                · have hDn : D = none := HD.out.symm.trans (hE2.out hsame)
                  have hEe : E = ed0 := by rw [HR.out, hDn]; rfl
                  clear HD HR HE hE1 hE2
                  subst hDn hEe
                  have hne : (((edT ⟨xs, ks, lg, nx, la⟩).toList == s.toList)) = false := by
                    cases h : ((edT ⟨xs, ks, lg, nx, la⟩).toList == s.toList)
                    · rfl
                    · rw [ByteArray.toList_eq, ByteArray.toList_eq] at h
                      exact absurd (txt_ext (by simpa using h)) hsame
                  generalize edT ⟨xs, ks, lg, nx, la⟩ = TT at *
                  go_wp2_with fail
                  refine bodyPost_ret (v := .tuple #[edV none 0 none 0 ed0, .bool false]) (by simp [results, Tryz.results30, go_sem, m0, m1, m2, m3, m4, ed0]) rfl ?_
                  first | refine ⟨none, 0, none, 0, rfl, .inl rfl, .inl rfl, ?_⟩ | refine ⟨none, 0, none, ⟨0, rfl⟩, .inl rfl, .inl rfl, ?_⟩
                  repeat refine below_set (by omega) ?_
                  exact HSP.out.hb
end Go.Proofs.YtphikgobdfknkaaGreatDoor
