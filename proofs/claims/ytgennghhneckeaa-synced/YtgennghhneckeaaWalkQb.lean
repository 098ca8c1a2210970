import Derived.Test.YtgennghhneckeaaSpecAppend

namespace Go.Proofs.Ytgennghhneckeaa
open Go.RowKit Go.Maps
set_option linter.unusedVariables false
set_option linter.unusedSimpArgs false

set_option maxRecDepth 100000 in
set_option maxHeartbeats 1000000 in
theorem takeStep2_bad (K : Nat) (p p2 : Nat) (a : Option Addr) (cap : Nat) (xs : List Fl) (q fu : Int) (w : World) (hx : Lie w a xs) (hf : Fits xs) (hlen : xs.length ≤ 1048576) (hd : datas xs ≤ 1048576) (hv : vldB xs q fu = false) :
    Calls Try.prog 20 #[fsV a xs.length cap q fu, .func (.func K) #[] #[.pointer (some ⟨p, 0, none⟩), .pointer (some ⟨p2, 0, none⟩)]] w fun e w' => e = .returned (.tuple #[fsZ, .int .i64 9]) ∧ Below w.heap.size w w' := by
  have hb0 : Below w.heap.size w ((w.alloc (.cells #[.slice a xs.length cap, .int .i64 q, .int .i64 fu] 25)).alloc (.cells #[.slice none 0 0, .int .i64 0, .int .i64 0] 25)) := ((Below.refl _ _).alloc (Nat.le_refl _) _).alloc (by simp) _
  go_enter Try.func20, Try.ntmps20
  go_wp2_with fail
  refine (openDir_bad a cap xs q fu _ (hx.below hb0) hf hlen hd hv).mono ?_
  rintro e w1 ⟨rfl, hb1⟩
  have hbb := hb0.trans (hb1.mono hb0.size)
  obtain ⟨hc, hz⟩ := bcell hb1
  have hsz := hb1.size
  simp at hsz
  clear hx hb1 hb0
  go_wp2
  refine bodyPost_ret (v := .tuple #[fsZ, .int .i64 9]) (by simp [results, Try.results20, go_sem, hc]) rfl ⟨rfl, ?_⟩
  exact ((hbb.setCell (by dsimp only; omega) _).setCell (by dsimp only; omega) _).setCell (by dsimp only; omega) _

set_option maxRecDepth 100000 in
set_option maxHeartbeats 1000000 in
theorem takeStep2_ok (K : Nat) (p p2 : Nat) (a : Option Addr) (cap : Nat) (xs ys : List Fl) (q fu fu' code : Int) (w : World) (hx : Lie w a xs) (hf : Fits xs) (hlen : xs.length ≤ 1048576) (hd : datas xs ≤ 1048576) (hv : vldB xs q fu = true)
    (hry : Rise ys) (hfy : Fits ys) (hly : ys.length ≤ 1048576) (hcall : ∀ (args : Array Value) (w : World), (callFunc K args).run Try.prog w = .ok (.enter K args) w)
    (hstep : ∀ (g mb : Nat) (w2 : World), Below w.heap.size w w2 → Ob w2 g 0 0 mb q fu → Dir w2 mb xs.length (fm xs) →
      Calls Try.prog K #[.pointer (some ⟨g, 0, none⟩), .pointer (some ⟨p, 0, none⟩), .pointer (some ⟨p2, 0, none⟩)] w2 fun e w3 => e = .returned (.int .i64 code) ∧ Ob w3 g 0 0 mb q fu' ∧ Dir w3 mb ys.length (fm ys) ∧ But [g, mb] w2.heap.size w2 w3) :
    Calls Try.prog 20 #[fsV a xs.length cap q fu, .func (.func K) #[] #[.pointer (some ⟨p, 0, none⟩), .pointer (some ⟨p2, 0, none⟩)]] w fun e w' =>
      ∃ a' cap', e = .returned (.tuple #[fsV a' ys.length cap' q fu', .int .i64 code]) ∧ Res w' w.heap.size a' cap' ys ∧ Below w.heap.size w w' := by
  have HS := hstep
  replace HS : Hid _ := HS
  clear hstep
  have hb0 : Below w.heap.size w ((w.alloc (.cells #[.slice a xs.length cap, .int .i64 q, .int .i64 fu] 25)).alloc (.cells #[.slice none 0 0, .int .i64 0, .int .i64 0] 25)) := ((Below.refl _ _).alloc (Nat.le_refl _) _).alloc (by simp) _
  go_enter Try.func20, Try.ntmps20
  go_wp2_with fail
  refine (openDir_ok a cap xs q fu _ (hx.below hb0) hf hlen hd hv).mono ?_
  rintro e w1 ⟨g, mb, rfl, hmb, hg, hne, hobj, hdir, hb1⟩
  have hbb := hb0.trans (hb1.mono hb0.size)
  simp at hmb hg
  have hp1 : w1.heap[w.heap.size + 1]? = some (.cells #[.slice none 0 0, .int .i64 0, .int .i64 0] 25 (0, 0)) := by
    rw [hb1.block _ (by simp)]
    have := World.heap_alloc_new (w.alloc (.cells #[.slice a xs.length cap, .int .i64 q, .int .i64 fu] 25)) (.cells #[.slice none 0 0, .int .i64 0, .int .i64 0] 25)
    have e : (w.alloc (.cells #[.slice a xs.length cap, .int .i64 q, .int .i64 fu] 25)).heap.size = w.heap.size + 1 := by simp
    rw [e] at this
    exact this
  have hs1 : w.heap.size + 1 < w1.heap.size := by have := hb1.size; simp at this; omega
  clear hx hb1 hb0 hv hf
  go_wp2_with fail
  refine (HS.out g mb w1 hbb hobj hdir).mono ?_
  rintro e w2 ⟨rfl, hob2, hdir2, hbut2⟩
  have hb2 : Below w.heap.size w w2 := hbb.trans ((hbut2.mono (by omega)).far (by simp; omega))
  have hp2 : w2.heap[w.heap.size + 1]? = some (.cells #[.slice none 0 0, .int .i64 0, .int .i64 0] 25 (0, 0)) := (hbut2.block _ (by omega) (by simp; omega)).trans hp1
  have hs2 : w.heap.size + 1 < w2.heap.size := Nat.lt_of_lt_of_le hs1 hbut2.size
  clear HS hobj hdir hbut2 hp1 hs1 hbb hcall
  go_wp2_with fail
  refine (plain_any g mb q fu' ys _ hob2 hdir2 hry hfy hly).mono ?_
  rintro e w3 ⟨a', cap', rfl, hres, hb3⟩
  have hbw3 := hb2.trans (hb3.mono hb2.size)
  have hp3 : w3.heap[w.heap.size + 1]? = some (.cells #[.slice none 0 0, .int .i64 0, .int .i64 0] 25 (0, 0)) := (hb3.block _ hs2).trans hp2
  have x0 : w3.cell? ⟨w.heap.size + 1, 0, none⟩ = some (.slice none 0 0) := by simp [World.cell?, hp3]
  have x1 : w3.cell? ⟨w.heap.size + 1, 1, none⟩ = some (.int .i64 0) := by simp [World.cell?, hp3]
  have x2 : w3.cell? ⟨w.heap.size + 1, 2, none⟩ = some (.int .i64 0) := by simp [World.cell?, hp3]
  have f0 : w3.frozen? ⟨w.heap.size + 1, 0, none⟩ = false := by simp [World.frozen?, hp3]
  have f1 : w3.frozen? ⟨w.heap.size + 1, 1, none⟩ = false := by simp [World.frozen?, hp3]
  have f2 : w3.frozen? ⟨w.heap.size + 1, 2, none⟩ = false := by simp [World.frozen?, hp3]
  have hle := hb3.size
  clear hob2 hdir2 hb3 hp2 hp3 hb2
  go_wp2
  refine bodyPost_ret (v := .tuple #[fsV a' ys.length cap' q fu', .int .i64 code]) (by simp [results, Try.results20, go_sem, x0, x1, x2]) rfl ⟨a', cap', rfl, ?_, ?_⟩
  · refine (hres.kept (fun k hk1 hk2 => ?_)).base (by omega)
    rw [Below.heap_setCell _ _ _ _ (by dsimp only; omega), Below.heap_setCell _ _ _ _ (by dsimp only; omega), Below.heap_setCell _ _ _ _ (by dsimp only; omega)]
  · exact ((hbw3.setCell (by dsimp only; omega) _).setCell (by dsimp only; omega) _).setCell (by dsimp only; omega) _
end Go.Proofs.Ytgennghhneckeaa
