import Derived.Test.YtgennghhneckeaaWalkQb

namespace Go.Proofs.Ytgennghhneckeaa
open Go.RowKit Go.Maps
set_option linter.unusedVariables false
set_option linter.unusedSimpArgs false

theorem apF_fits {xs : List Fl} (hd : datas xs ≤ 1048576) (s ss : ByteArray) (hsm : ss.size ≤ 1048576) : (apF xs s ss).dt.size ≤ maxLen := by
  unfold apF maxLen
  cases hx : fm xs s.data.toList with
  | none =>
    show (ByteArray.empty ++ ss).size ≤ _
    rw [ByteArray.size_append]
    have : ByteArray.empty.size = 0 := rfl
    omega
  | some x =>
    have := fm_size hx
    show (x.1 ++ ss).size ≤ _
    rw [ByteArray.size_append]
    omega
theorem apCode_some {xs : List Fl} {q fu : Int} {s ss : ByteArray} (h : apCode xs q fu s ss = 0) : ∃ x, fm xs s.data.toList = some x := by
  unfold apCode at h
  by_cases h0 : atCode fu (nmOk s) (fm xs s.data.toList) ≠ 0
  · rw [if_pos h0] at h
    exact absurd h h0
  · exact atCode_some (Decidable.not_not.1 h0)

set_option maxRecDepth 100000 in
set_option maxHeartbeats 1000000 in
theorem stepAppend_any (p p2 : Nat) (xs ys : List Fl) (q fu cd : Int) (s ss : ByteArray) (w : World) (hp : w.cell? ⟨p, 0, none⟩ = some (.string s)) (hpl : p < w.heap.size) (hp' : w.cell? ⟨p2, 0, none⟩ = some (.string ss)) (hpl' : p2 < w.heap.size) (hr : Rise xs) (hdt : datas xs ≤ 1048576) (hsm : ss.size ≤ 1048576) (hlen : xs.length ≤ 1048576) (hlo : -1 ≤ fu) (hhi : fu ≤ 9223372036854775807) (hs : s.size ≤ maxLen) (hss : ss.size ≤ maxLen)
    (HC : Hid (cd = apCode xs q fu s ss)) (HY : Hid (ys = if cd = 0 then wi xs (apF xs s ss) else xs))
    (g mb : Nat) (w2 : World) (hb : Below w.heap.size w w2) (hob : Ob w2 g 0 0 mb q fu) (hdir : Dir w2 mb xs.length (fm xs)) :
    Calls Try.prog 23 #[.pointer (some ⟨g, 0, none⟩), .pointer (some ⟨p, 0, none⟩), .pointer (some ⟨p2, 0, none⟩)] w2 fun e w3 => e = .returned (.int .i64 cd) ∧ Ob w3 g 0 0 mb q (fuel' fu) ∧ Dir w3 mb ys.length (fm ys) ∧ But [g, mb] w2.heap.size w2 w3 := by
  have hp2 : w2.cell? ⟨p, 0, none⟩ = some (.string s) := (hb.cell (p := ⟨p, 0, none⟩) hpl).trans hp
  have hp3 : w2.cell? ⟨p2, 0, none⟩ = some (.string ss) := (hb.cell (p := ⟨p2, 0, none⟩) hpl').trans hp'
  clear hb hp hp'
  have HL : Hid (ys.length = xs.length) := by
    show _ = _
    by_cases h0 : cd = 0
    · obtain ⟨x, hx⟩ := apCode_some (HC.out.symm.trans h0)
      rw [HY.out, if_pos h0, wi_length hr]
      show (if (fm xs s.data.toList).isSome = true then _ else _) = _
      rw [hx]
      rfl
    · rw [HY.out, if_neg h0]
  have HNM : Hid (fm ys = if cd = 0 then upd (fm xs) s.data.toList ((apF xs s ss).dt, (apF xs s ss).sy) else fm xs) := by
    show _ = _
    by_cases h0 : cd = 0
    · rw [HY.out, if_pos h0, if_pos h0, wi_fm]
      rfl
    · rw [HY.out, if_neg h0, if_neg h0]
  rw [HL.out]
  generalize fm ys = nm at *
  clear HY HL
  go_enter Try.func23, Try.ntmps23
  go_wp2_with fail
  refine (append_any g mb q fu s ss xs _ hob hdir hr hdt hlen hlo hhi hs hsm cd nm HC HNM).mono ?_
  rintro e w3 ⟨rfl, hob3, hdir3, hbut3⟩
  go_wp2
  go_ret
  exact ⟨rfl, hob3, hdir3, hbut3⟩

set_option maxRecDepth 100000 in
set_option maxHeartbeats 1000000 in
theorem implAppend_bad (a : Option Addr) (cap : Nat) (xs : List Fl) (q fu : Int) (s ss : ByteArray) (w : World) (hx : Lie w a xs) (hf : Fits xs) (hlen : xs.length ≤ 1048576) (hd : datas xs ≤ 1048576) (hv : vldB xs q fu = false) :
    Calls Try.prog 8 #[fsV a xs.length cap q fu, .string s, .string ss] w fun e w' => e = .returned (.tuple #[fsZ, .int .i64 9]) ∧ Below w.heap.size w w' := by
  have hb0 : Below w.heap.size w ((((w.alloc (.cells #[.slice a xs.length cap, .int .i64 q, .int .i64 fu] 25)).alloc (.cells #[.string s] 9)).alloc (.cells #[.string ss] 9)).alloc (.cells #[.slice none 0 0, .int .i64 0, .int .i64 0] 25)) := ((((Below.refl _ _).alloc (Nat.le_refl _) _).alloc (by simp) _).alloc (by simp; omega) _).alloc (by simp; omega) _
  go_enter Try.func8, Try.ntmps8
  go_wp2_with fail
  refine (takeStep2_bad 23 (w.heap.size + 1) (w.heap.size + 2) a cap xs q fu _ (hx.below hb0) hf hlen hd hv).mono ?_
  rintro e w1 ⟨rfl, hb1⟩
  have hbb := hb0.trans (hb1.mono hb0.size)
  obtain ⟨hc, hz⟩ := bcell hb1
  have hsz := hb1.size
  simp at hsz
  clear hx hb1 hb0
  go_wp2
  refine bodyPost_ret (v := .tuple #[fsZ, .int .i64 9]) (by simp [results, Try.results8, go_sem, hc]) rfl ⟨rfl, ?_⟩
  exact hbb.trans (three_below w1 _ _ _ (by omega))

set_option maxRecDepth 100000 in
set_option maxHeartbeats 1000000 in
theorem implAppend_ok (a : Option Addr) (cap : Nat) (xs ys : List Fl) (q fu cd : Int) (s ss : ByteArray) (w : World) (hx : Lie w a xs) (hf : Fits xs) (hlen : xs.length ≤ 1048576) (hd : datas xs ≤ 1048576) (hv : vldB xs q fu = true) (hhi : fu ≤ 9223372036854775807) (hs : s.size ≤ maxLen) (hss : ss.size ≤ maxLen) (hsm : ss.size ≤ 1048576)
    (HC : Hid (cd = apCode xs q fu s ss)) (HY : Hid (ys = if cd = 0 then wi xs (apF xs s ss) else xs)) :
    Calls Try.prog 8 #[fsV a xs.length cap q fu, .string s, .string ss] w fun e w' => ∃ a' cap', e = .returned (.tuple #[fsV a' ys.length cap' q (fuel' fu), .int .i64 cd]) ∧ Res w' w.heap.size a' cap' ys ∧ Below w.heap.size w w' := by
  have hb0 : Below w.heap.size w ((((w.alloc (.cells #[.slice a xs.length cap, .int .i64 q, .int .i64 fu] 25)).alloc (.cells #[.string s] 9)).alloc (.cells #[.string ss] 9)).alloc (.cells #[.slice none 0 0, .int .i64 0, .int .i64 0] 25)) := ((((Below.refl _ _).alloc (Nat.le_refl _) _).alloc (by simp) _).alloc (by simp; omega) _).alloc (by simp; omega) _
  have hrise := rise_of_ok (vld_head hv).2.1
  have hlo : -1 ≤ fu := by
    have := (vld_head hv).1
    simp [hdOk] at this
    exact this.2
  have hl2 := vld_200 hv
  have hry : Rise ys := by rw [HY.out]; split; exact wi_rise hrise; exact hrise
  have hfy : Fits ys := by
    rw [HY.out]
    split
    · exact wi_fits hf hs (apF_fits hd s ss hsm)
    · exact hf
  have hly : ys.length ≤ 1048576 := by
    rw [HY.out]; split
    · exact Nat.le_trans (wi_le _ _) (by omega)
    · exact hlen
  have z1 : (w.alloc (.cells #[.slice a xs.length cap, .int .i64 q, .int .i64 fu] 25)).heap.size = w.heap.size + 1 := by simp
  have z2 : ((w.alloc (.cells #[.slice a xs.length cap, .int .i64 q, .int .i64 fu] 25)).alloc (.cells #[.string s] 9)).heap.size = w.heap.size + 2 := by simp
  have z3 : (((w.alloc (.cells #[.slice a xs.length cap, .int .i64 q, .int .i64 fu] 25)).alloc (.cells #[.string s] 9)).alloc (.cells #[.string ss] 9)).heap.size = w.heap.size + 3 := by simp
  have b1 : ((w.alloc (.cells #[.slice a xs.length cap, .int .i64 q, .int .i64 fu] 25)).alloc (.cells #[.string s] 9)).heap[w.heap.size + 1]? = some (.cells #[.string s] 9 (0, 0)) := by rw [← z1]; exact World.heap_alloc_new _ _
  have b2 : (((w.alloc (.cells #[.slice a xs.length cap, .int .i64 q, .int .i64 fu] 25)).alloc (.cells #[.string s] 9)).alloc (.cells #[.string ss] 9)).heap[w.heap.size + 1]? = some (.cells #[.string s] 9 (0, 0)) := (Below.heap_alloc ((w.alloc (.cells #[.slice a xs.length cap, .int .i64 q, .int .i64 fu] 25)).alloc (.cells #[.string s] 9)) _ _ (by rw [z2]; omega)).trans b1
  have b3 : (((w.alloc (.cells #[.slice a xs.length cap, .int .i64 q, .int .i64 fu] 25)).alloc (.cells #[.string s] 9)).alloc (.cells #[.string ss] 9)).heap[w.heap.size + 2]? = some (.cells #[.string ss] 9 (0, 0)) := by rw [← z2]; exact World.heap_alloc_new _ _
  have hcell := cell_of_block1 ((Below.heap_alloc (((w.alloc (.cells #[.slice a xs.length cap, .int .i64 q, .int .i64 fu] 25)).alloc (.cells #[.string s] 9)).alloc (.cells #[.string ss] 9)) (.cells #[.slice none 0 0, .int .i64 0, .int .i64 0] 25) _ (by rw [z3]; omega)).trans b2)
  have hcell' := cell_of_block1 ((Below.heap_alloc (((w.alloc (.cells #[.slice a xs.length cap, .int .i64 q, .int .i64 fu] 25)).alloc (.cells #[.string s] 9)).alloc (.cells #[.string ss] 9)) (.cells #[.slice none 0 0, .int .i64 0, .int .i64 0] 25) _ (by rw [z3]; omega)).trans b3)
  have hcl : w.heap.size + 1 < ((((w.alloc (.cells #[.slice a xs.length cap, .int .i64 q, .int .i64 fu] 25)).alloc (.cells #[.string s] 9)).alloc (.cells #[.string ss] 9)).alloc (.cells #[.slice none 0 0, .int .i64 0, .int .i64 0] 25)).heap.size := by simp
  have hcl' : w.heap.size + 2 < ((((w.alloc (.cells #[.slice a xs.length cap, .int .i64 q, .int .i64 fu] 25)).alloc (.cells #[.string s] 9)).alloc (.cells #[.string ss] 9)).alloc (.cells #[.slice none 0 0, .int .i64 0, .int .i64 0] 25)).heap.size := by simp
  have HST := fun g mb w2 hb hob hdir => stepAppend_any (w.heap.size + 1) (w.heap.size + 2) xs ys q fu cd s ss _ hcell hcl hcell' hcl' hrise hd hsm hlen hlo hhi hs hss HC HY g mb w2 hb hob hdir
  replace HST : Hid _ := HST
  clear hcell hcl hcell' hcl' b1 b2 b3 z1 z2
  have hcall := fun (args : Array Value) (w : World) => Go.MuLone.run_callFunc_enter (P := Try.prog) Try.func23 (by kernel_rfl) rfl args w
  have hRet : ((((w.alloc (.cells #[.slice a xs.length cap, .int .i64 q, .int .i64 fu] 25)).alloc (.cells #[.string s] 9)).alloc (.cells #[.string ss] 9)).alloc (.cells #[.slice none 0 0, .int .i64 0, .int .i64 0] 25)).heap[w.heap.size + 3]? = some (.cells #[.slice none 0 0, .int .i64 0, .int .i64 0] 25 (0, 0)) := by rw [← z3]; exact World.heap_alloc_new _ _
  replace hRet : Hid _ := hRet
  clear z3
  go_enter Try.func8, Try.ntmps8
  go_wp2_with fail
  refine (takeStep2_ok 23 (w.heap.size + 1) (w.heap.size + 2) a cap xs ys q fu (fuel' fu) cd _ (hx.below hb0) hf hlen hd hv hry hfy hly hcall HST.out).mono ?_
  rintro e w1 ⟨a1, cap1, rfl, hres, hb1⟩
  have hbb := hb0.trans (hb1.mono hb0.size)
  have hR1 := (hb1.block (w.heap.size + 3) (by simp)).trans hRet.out
  obtain ⟨⟨r0, r1, r2⟩, s0, s1, s2⟩ := three_cells hR1
  have hsz : w.heap.size + 4 ≤ w1.heap.size := by have := hb1.size; simp at this; omega
  have hres' := hres.base (base' := w.heap.size + 4) (by simp)
  clear hx hb1 hb0 hres hcall HC HY hf hfy hv HST hRet
  go_wp2
  refine bodyPost_ret (v := .tuple #[fsV a1 ys.length cap1 q (fuel' fu), .int .i64 cd]) (by simp [results, Try.results8, go_sem, r0, r1, r2]) rfl ⟨a1, cap1, rfl, ?_, ?_⟩
  · exact (hres'.kept (fun k h1 h2 => three_other w1 _ _ _ (by omega))).base (by omega)
  · exact hbb.trans (three_below w1 _ _ _ (by omega))
end Go.Proofs.Ytgennghhneckeaa
