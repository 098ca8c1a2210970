import Derived.Test.YtgennghhneckeaaPuX

namespace Go.Proofs.Ytgennghhneckeaa
open Go.RowKit Go.Maps
set_option linter.unusedVariables false
set_option linter.unusedSimpArgs false

theorem syF_fits {xs : List Fl} (h : Fits xs) (s : ByteArray) : (syF xs s).dt.size ≤ maxLen := by
  unfold syF
  cases hx : fm xs s.data.toList with
  | none => exact Nat.zero_le _
  | some x => exact fm_fits h hx

set_option maxRecDepth 100000 in
set_option maxHeartbeats 1000000 in
theorem stepSync_any (p : Nat) (xs ys : List Fl) (q fu cd : Int) (s : ByteArray) (w : World) (hp : w.cell? ⟨p, 0, none⟩ = some (.string s)) (hpl : p < w.heap.size) (hr : Rise xs) (hlen : xs.length ≤ 1048576) (hlo : -1 ≤ fu) (hhi : fu ≤ 9223372036854775807) (hs : s.size ≤ maxLen)
    (HC : Hid (cd = atCode fu (nmOk s) (fm xs s.data.toList))) (HY : Hid (ys = if cd = 0 then wi xs (syF xs s) else xs))
    (g mb : Nat) (w2 : World) (hb : Below w.heap.size w w2) (hob : Ob w2 g 0 0 mb q fu) (hdir : Dir w2 mb xs.length (fm xs)) :
    Calls Try.prog 21 #[.pointer (some ⟨g, 0, none⟩), .pointer (some ⟨p, 0, none⟩)] w2 fun e w3 => e = .returned (.int .i64 cd) ∧ Ob w3 g 0 0 mb q (fuel' fu) ∧ Dir w3 mb ys.length (fm ys) ∧ But [g, mb] w2.heap.size w2 w3 := by
  have hp2 : w2.cell? ⟨p, 0, none⟩ = some (.string s) := (hb.cell (p := ⟨p, 0, none⟩) hpl).trans hp
  clear hb hp
  go_enter Try.func21, Try.ntmps21
  go_wp2_with fail
  refine (sync_any g mb xs.length q fu s (fm xs) _ hob hdir (by unfold maxLen; omega) hlo hhi hs).mono ?_
  rintro e w3 ⟨rfl, hob3, hdir3, hbut3⟩
  have hdy : Dir w3 mb ys.length (fm ys) := by
    rw [← HC.out] at hdir3
    by_cases h0 : cd = 0
    · rw [if_pos h0] at hdir3
      obtain ⟨x, hx⟩ := atCode_some (HC.out.symm.trans h0)
      have hl : (wi xs (syF xs s)).length = xs.length := by rw [wi_length hr]; show (if (fm xs s.data.toList).isSome = true then _ else _) = _; rw [hx]; rfl
      rw [HY.out, if_pos h0, wi_fm, hl]
      exact hdir3
    · rw [if_neg h0] at hdir3
      rw [HY.out, if_neg h0]
      exact hdir3
  rw [← HC.out]
  clear hdir3 HY HC
  go_wp2
  go_ret
  exact ⟨rfl, hob3, hdy, hbut3⟩

set_option maxRecDepth 100000 in
set_option maxHeartbeats 1000000 in
theorem implSync_bad (a : Option Addr) (cap : Nat) (xs : List Fl) (q fu : Int) (s : ByteArray) (w : World) (hx : Lie w a xs) (hf : Fits xs) (hlen : xs.length ≤ 1048576) (hd : datas xs ≤ 1048576) (hv : vldB xs q fu = false) :
    Calls Try.prog 7 #[fsV a xs.length cap q fu, .string s] w fun e w' => e = .returned (.tuple #[fsZ, .int .i64 9]) ∧ Below w.heap.size w w' := by
  have hb0 : Below w.heap.size w (((w.alloc (.cells #[.slice a xs.length cap, .int .i64 q, .int .i64 fu] 25)).alloc (.cells #[.string s] 9)).alloc (.cells #[.slice none 0 0, .int .i64 0, .int .i64 0] 25)) := (((Below.refl _ _).alloc (Nat.le_refl _) _).alloc (by simp) _).alloc (by simp; omega) _
  go_enter Try.func7, Try.ntmps7
  go_wp2_with fail
  refine (takeStep_bad 21 (w.heap.size + 1) a cap xs q fu _ (hx.below hb0) hf hlen hd hv).mono ?_
  rintro e w1 ⟨rfl, hb1⟩
  have hbb := hb0.trans (hb1.mono hb0.size)
  obtain ⟨hc, hz⟩ := bcell hb1
  have hsz := hb1.size
  simp at hsz
  clear hx hb1 hb0
  go_wp2
  refine bodyPost_ret (v := .tuple #[fsZ, .int .i64 9]) (by simp [results, Try.results7, go_sem, hc]) rfl ⟨rfl, ?_⟩
  exact hbb.trans (three_below w1 _ _ _ (by omega))

set_option maxRecDepth 100000 in
set_option maxHeartbeats 1000000 in
theorem implSync_ok (a : Option Addr) (cap : Nat) (xs ys : List Fl) (q fu cd : Int) (s : ByteArray) (w : World) (hx : Lie w a xs) (hf : Fits xs) (hlen : xs.length ≤ 1048576) (hd : datas xs ≤ 1048576) (hv : vldB xs q fu = true) (hhi : fu ≤ 9223372036854775807) (hs : s.size ≤ maxLen)
    (HC : Hid (cd = atCode fu (nmOk s) (fm xs s.data.toList))) (HY : Hid (ys = if cd = 0 then wi xs (syF xs s) else xs)) :
    Calls Try.prog 7 #[fsV a xs.length cap q fu, .string s] w fun e w' => ∃ a' cap', e = .returned (.tuple #[fsV a' ys.length cap' q (fuel' fu), .int .i64 cd]) ∧ Res w' w.heap.size a' cap' ys ∧ Below w.heap.size w w' := by
  have hb0 : Below w.heap.size w (((w.alloc (.cells #[.slice a xs.length cap, .int .i64 q, .int .i64 fu] 25)).alloc (.cells #[.string s] 9)).alloc (.cells #[.slice none 0 0, .int .i64 0, .int .i64 0] 25)) := (((Below.refl _ _).alloc (Nat.le_refl _) _).alloc (by simp) _).alloc (by simp; omega) _
  have hrise := rise_of_ok (vld_head hv).2.1
  have hlo : -1 ≤ fu := by
    have := (vld_head hv).1
    simp [hdOk] at this
    exact this.2
  have hl2 := vld_200 hv
  have hry : Rise ys := by rw [HY.out]; split; exact wi_rise hrise; exact hrise
  have hfy : Fits ys := by
    rw [HY.out]
    split
    · exact wi_fits hf hs (syF_fits hf s)
    · exact hf
  have hly : ys.length ≤ 1048576 := by
    rw [HY.out]; split
    · exact Nat.le_trans (wi_le _ _) (by omega)
    · exact hlen
  have hcell : (((w.alloc (.cells #[.slice a xs.length cap, .int .i64 q, .int .i64 fu] 25)).alloc (.cells #[.string s] 9)).alloc (.cells #[.slice none 0 0, .int .i64 0, .int .i64 0] 25)).cell? ⟨w.heap.size + 1, 0, none⟩ = some (.string s) := by
    have e : (w.alloc (.cells #[.slice a xs.length cap, .int .i64 q, .int .i64 fu] 25)).heap.size = w.heap.size + 1 := by simp
    have hb : ((w.alloc (.cells #[.slice a xs.length cap, .int .i64 q, .int .i64 fu] 25)).alloc (.cells #[.string s] 9)).heap[w.heap.size + 1]? = some (.cells #[.string s] 9 (0, 0)) := by rw [← e]; exact World.heap_alloc_new _ _
    have hb' := (Below.heap_alloc ((w.alloc (.cells #[.slice a xs.length cap, .int .i64 q, .int .i64 fu] 25)).alloc (.cells #[.string s] 9)) (.cells #[.slice none 0 0, .int .i64 0, .int .i64 0] 25) (w.heap.size + 1) (by simp)).trans hb
    exact cell_of_block1 hb'
  have hcl : w.heap.size + 1 < (((w.alloc (.cells #[.slice a xs.length cap, .int .i64 q, .int .i64 fu] 25)).alloc (.cells #[.string s] 9)).alloc (.cells #[.slice none 0 0, .int .i64 0, .int .i64 0] 25)).heap.size := by simp
  have HST := fun g mb w2 hb hob hdir => stepSync_any (w.heap.size + 1) xs ys q fu cd s _ hcell hcl hrise hlen hlo hhi hs HC HY g mb w2 hb hob hdir
  replace HST : Hid _ := HST
  clear hcell hcl
  have hcall := fun (args : Array Value) (w : World) => Go.MuLone.run_callFunc_enter (P := Try.prog) Try.func21 (by kernel_rfl) rfl args w
  go_enter Try.func7, Try.ntmps7
  go_wp2_with fail
  refine (takeStep_ok 21 (w.heap.size + 1) a cap xs ys q fu (fuel' fu) cd _ (hx.below hb0) hf hlen hd hv hry hfy hly hcall HST.out).mono ?_
  rintro e w1 ⟨a1, cap1, rfl, hres, hb1⟩
  have hbb := hb0.trans (hb1.mono hb0.size)
  have hR1 := (hb1.block (w.heap.size + 2) (by simp)).trans (show (((w.alloc (.cells #[.slice a xs.length cap, .int .i64 q, .int .i64 fu] 25)).alloc (.cells #[.string s] 9)).alloc (.cells #[.slice none 0 0, .int .i64 0, .int .i64 0] 25)).heap[w.heap.size + 2]? = some (.cells #[.slice none 0 0, .int .i64 0, .int .i64 0] 25 (0, 0)) by
    have := World.heap_alloc_new ((w.alloc (.cells #[.slice a xs.length cap, .int .i64 q, .int .i64 fu] 25)).alloc (.cells #[.string s] 9)) (.cells #[.slice none 0 0, .int .i64 0, .int .i64 0] 25)
    have e : ((w.alloc (.cells #[.slice a xs.length cap, .int .i64 q, .int .i64 fu] 25)).alloc (.cells #[.string s] 9)).heap.size = w.heap.size + 2 := by simp
    rw [e] at this
    exact this)
  obtain ⟨⟨r0, r1, r2⟩, s0, s1, s2⟩ := three_cells hR1
  have hsz : w.heap.size + 3 ≤ w1.heap.size := by have := hb1.size; simp at this; omega
  have hres' := hres.base (base' := w.heap.size + 3) (by simp)
  clear hx hb1 hb0 hres hcall HC HY hf hfy hv HST
  go_wp2
  refine bodyPost_ret (v := .tuple #[fsV a1 ys.length cap1 q (fuel' fu), .int .i64 cd]) (by simp [results, Try.results7, go_sem, r0, r1, r2]) rfl ⟨a1, cap1, rfl, ?_, ?_⟩
  · exact (hres'.kept (fun k h1 h2 => three_other w1 _ _ _ (by omega))).base (by omega)
  · exact hbb.trans (three_below w1 _ _ _ (by omega))
end Go.Proofs.Ytgennghhneckeaa
