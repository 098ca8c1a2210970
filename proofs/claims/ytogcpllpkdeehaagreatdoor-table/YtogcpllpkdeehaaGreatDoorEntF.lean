import Derived.Test.YtogcpllpkdeehaaGreatDoorEntE

namespace Go.Proofs.YtogcpllpkdeehaaGreatDoor
open Go.RowKit Go.Maps
set_option linter.unusedVariables false
set_option linter.unusedSimpArgs false

theorem four_cellsE {w : World} {p : Nat} {t : TypeId} {x0 x1 x2 x3 : Value} (h : w.heap[p]? = some (.cells #[x0, x1, x2, x3] t (0, 0))) :
    w.cell? ⟨p, 0, none⟩ = some x0 ∧ w.cell? ⟨p, 1, none⟩ = some x1 ∧ w.cell? ⟨p, 2, none⟩ = some x2 ∧ w.cell? ⟨p, 3, none⟩ = some x3 := by
  refine ⟨?_, ?_, ?_, ?_⟩ <;> simp [World.cell?, h]
set_option maxRecDepth 100000 in
set_option maxHeartbeats 2000000 in
theorem implEnc_any (a : Option Addr) (cap : Nat) (xs : List En) (w : World) (hx : LieE w a xs) (hf : FitsE xs) (hlen : xs.length ≤ 1048576) :
    Calls Tryz.prog 20 #[.slice a xs.length cap] w fun e w' => e = .returned (.string (encT xs)) ∧ Below w.heap.size w w' := by
  by_cases hlong : 1000 < xs.length
  · rw [encT_long xs hlong]
    have h' : (1000 : Int) < xs.length := by omega
    go_enter Tryz.func20, Tryz.ntmps20
    go_wp2_with fail
    go_ret
    exact ⟨rfl, Below.refl _ _⟩
  · have h' : ¬ (1000 : Int) < xs.length := by omega
    generalize hT : encT xs = T
    have HT : Hid (encT xs = T) := hT
    clear hT
    have HV : Hid ((vtext (xs.length : Int)).data.toList = vb xs.length) := by show _ = _; rw [vtext_in _ (by omega) (by omega)]; simp
    have HVS : Hid ((vtext (xs.length : Int)).size ≤ 8) := vtext_size _
    have hB0 : Bld w.heap.size w.heap.size [] (w.alloc (.cells #[.pointer none, .slice none 0 0] 44)) := Lib.IsBuilderF.of (Lib.fresh_isBuilder 44 5 w)
    have hb0 : Below w.heap.size w (w.alloc (.cells #[.pointer none, .slice none 0 0] 44)) := (Below.refl _ _).alloc (Nat.le_refl _) _
    go_enter Tryz.func20, Tryz.ntmps20
    go_wp2_with fail
    refine (implPut_any _ _).mono ?_
    rintro e w1 ⟨rfl, hb1⟩
    have hB1 := hB0.below hb1
    have hbw1 : Below w.heap.size w w1 := hb0.trans (hb1.mono hb0.size)
    go_wp2_with fail
    refine (writeString_any _ _ _ _ w1 hB1 (by have := HVS.out; simp; omega) hbw1.size).mono ?_
    rintro e w2 ⟨rfl, hB2, hb2, -⟩
    rw [HV.out, List.nil_append] at hB2
    have hbw2 : Below w.heap.size w w2 := hbw1.trans hb2
    clear hB0 hB1 hb0 hb1 hb2 hbw1
    go_wp2_with fail
    go_loopw [15] (fun y wr => ∃ k : Nat, y = .int .i64 k ∧ k ≤ xs.length ∧ (xs.take k).all entOk = true ∧ Bld w.heap.size w.heap.size (encB xs.length (xs.take k)) wr ∧ Below w.heap.size w wr) (fun y _ => xs.length - (intOf y).toNat)
    case atStart => exact ⟨0, rfl, by omega, rfl, by simpa [encB] using hB2, hbw2⟩
    case round =>
      obtain ⟨k, rfl, hk, hall, hB, hb⟩ := hrel
      have hbs := hb.size
      have hBlt := hB.lt
      by_cases hlt : k < xs.length
      · obtain ⟨b, off, rfl, hbl, c0, c1, c2, c3⟩ := (hx.below hb).at hlt
        have hfk := hf.at hlt
        have hik : (k : Int) < (xs.length : Int) := by omega
        have HB : Hid (entOk (xs.getD k en0) = false → T = ⟨#[]⟩) := fun h => by rw [← HT.out]; exact encT_bad xs k hlt h
        have HS : Hid (encB xs.length (xs.take (k + 1)) = encB xs.length (xs.take k) ++ ebA (xs.getD k en0) ++ ebB (xs.getD k en0)) := by show _ = _; rw [takeE_snoc xs k hlt, encB_snoc]
        have HA : Hid (entOk (xs.getD k en0) = true → (xs.take (k + 1)).all entOk = true) := fun h => by rw [takeE_snoc xs k hlt, List.all_append, hall]; simpa using h
        have hbl2 : (encB xs.length (xs.take k)).length ≤ 5025008 := by have := encB_len xs.length (xs.take k) hall; rw [List.length_take] at this; omega
        generalize xs.getD k en0 = f at *
        generalize encB xs.length (xs.take k) = l at *
        obtain ⟨ky, sq, kd, vl⟩ := f
        have hP0 : (wr.alloc (.cells #[.string ky, .int .i64 sq, .int .i64 kd, .string vl] 39)).heap[wr.heap.size]? = some (.cells #[.string ky, .int .i64 sq, .int .i64 kd, .string vl] 39 (0, 0)) := World.heap_alloc_new _ _
        have hba : Below w.heap.size w (wr.alloc (.cells #[.string ky, .int .i64 sq, .int .i64 kd, .string vl] 39)) := hb.alloc hbs _
        have hBa : Bld w.heap.size w.heap.size l (wr.alloc (.cells #[.string ky, .int .i64 sq, .int .i64 kd, .string vl] 39)) := Lib.IsBuilderF.alloc hB _
        have hne : ∀ c fz, (Obj.cells #[.string ky, .int .i64 sq, .int .i64 kd, .string vl] 39 (0, 0)) ≠ .cells c 5 fz := fun c fz h => by simp at h
        go_wp2_with fail
        refine (validEntry_any ⟨ky, sq, kd, vl⟩ _ hfk.1 hfk.2).mono ?_
        rintro e w3 ⟨rfl, hb3⟩
        have hbw3 : Below w.heap.size w w3 := hba.trans (hb3.mono hba.size)
        cases hok : entOk ⟨ky, sq, kd, vl⟩ with
        | false =>
          have hTe := HB.out hok
          go_wp2_with fail
          go_ret
          exact ⟨by rw [hTe]; rfl, hbw3⟩
        | true =>
          obtain ⟨q1, q2⟩ := (entOk_iff _).1 hok
          simp only at q1 q2
          have hP3 := (hb3.block wr.heap.size (by simp)).trans hP0
          have hB3 := hBa.below hb3
          have hAll := HA.out hok
          have HV2 : Hid ((vtext sq).data.toList = vb sq.toNat) := by show _ = _; rw [vtext_in _ (by omega) (by omega)]
          have hvs2 := vtext_size sq
          have hl1 := vb_len ky.size
          have hl2 := vb_len sq.toNat
          have hl3 := vb_len vl.size
          have hdk := dataL ky
          clear HB HA hb3 c0 c1 c2 c3 hB hx hf hbw2 hB2 hfk hP0 hba hBa hb hok
          obtain ⟨x0, x1, x2, x3⟩ := four_cellsE hP3
          have hlt3 := heap_lt hP3
          go_wp2_with fail
          refine (putSized_any w.heap.size w.heap.size l ky w3 hB3 (by omega) (by omega) hbw3.size).mono ?_
          rintro e w4 ⟨rfl, hB4, hb4, hk4⟩
          have hP4 := hk4 wr.heap.size _ hP3 (by omega) hne
          have hbw4 := hbw3.trans hb4
          obtain ⟨y0, y1, y2, y3⟩ := four_cellsE hP4
          clear hk4 hb4
          go_wp2_with fail
          refine (implPut_any _ _).mono ?_
          rintro e w5 ⟨rfl, hb5⟩
          have hB5 := hB4.below hb5
          have hP5 := (hb5.block wr.heap.size (heap_lt hP4)).trans hP4
          have hbw5 := hbw4.trans (hb5.mono hbw4.size)
          go_wp2_with fail
          refine (writeString_any _ _ _ _ w5 hB5 (by simp only [List.length_append]; omega) hbw5.size).mono ?_
          rintro e w6 ⟨rfl, hB6, hb6, hk6⟩
          rw [HV2.out] at hB6
          have hP6 := hk6 wr.heap.size _ hP5 (by simp; omega) hne
          have hbw6 := hbw5.trans hb6
          obtain ⟨z0, z1, z2, z3⟩ := four_cellsE hP6
          clear hk6 hb6 hb5
          obtain ⟨kn, rfl⟩ : ∃ kn : Nat, kd = kn := ⟨kd.toNat, by omega⟩
          have hkn : (kn : Int) < 256 := by omega
          go_wp2_with fail
          refine (writeByte_any _ _ _ kn w6 hB6 (by omega) (by simp only [List.length_append]; omega) hbw6.size).mono ?_
          rintro e w7 ⟨rfl, hB7, hb7, hk7⟩
          have hP7 := hk7 wr.heap.size _ hP6 (by simp; omega) hne
          have hbw7 := hbw6.trans hb7
          obtain ⟨u0, u1, u2, u3⟩ := four_cellsE hP7
          clear hk7 hb7
          go_wp2_with fail
          refine (putSized_any w.heap.size w.heap.size _ vl w7 hB7 (by omega) (by simp only [List.length_append, List.length_singleton]; omega) hbw7.size).mono ?_
          rintro e w8 ⟨rfl, hB8, hb8, hk8⟩
          have hbw8 := hbw7.trans hb8
          go_wp2_with fail
          refine ⟨⟨k + 1, by simp, by omega, hAll, ?_, hbw8⟩, by simp only [intOf]; omega⟩
          rw [HS.out]
          have e : l ++ ebA ⟨ky, sq, kn, vl⟩ ++ ebB ⟨ky, sq, kn, vl⟩ = l ++ (vb ky.size ++ ky.data.toList) ++ vb sq.toNat ++ [UInt8.ofNat kn] ++ (vb vl.size ++ vl.data.toList) := by
            simp [ebA, ebB]
          rw [e]
          exact hB8
      · obtain rfl : k = xs.length := by omega
        rw [List.take_length] at hall hB
        have hTe := HT.out
        rw [encT_ok xs (by omega) hall] at hTe
        go_wp2_with fail
        refine (Tryz.Builder_String_any_k w.heap.size w.heap.size _ _ hB hbs).mono ?_
        rintro e w3 ⟨rfl, -, hb3, -⟩
        go_wp2_with fail
        go_ret
        exact ⟨rfl, hb.trans hb3⟩
end Go.Proofs.YtogcpllpkdeehaaGreatDoor
