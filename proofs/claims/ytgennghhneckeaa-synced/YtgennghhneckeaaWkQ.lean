import Derived.Test.YtgennghhneckeaaWkX
namespace Go.Proofs.Ytgennghhneckeaa
open Go.RowKit Go.Maps
set_option linter.unusedVariables false
set_option linter.unusedSimpArgs false

/-- The zero directory. -/
abbrev fsZ : Value := .agg #[.slice none 0 0, .int .i64 0, .int .i64 0]
abbrev fsV (a : Option Addr) (n cap : Nat) (q fu : Int) : Value := .agg #[.slice a n cap, .int .i64 q, .int .i64 fu]

set_option maxRecDepth 100000 in
set_option maxHeartbeats 1000000 in
theorem takeStep_bad (K : Nat) (p : Nat) (a : Option Addr) (cap : Nat) (xs : List Fl) (q fu : Int) (w : World) (hx : Lie w a xs) (hf : Fits xs) (hlen : xs.length ≤ 1048576) (hd : datas xs ≤ 1048576) (hv : vldB xs q fu = false) :
    Calls Try.prog 20 #[fsV a xs.length cap q fu, .func (.func K) #[] #[.pointer (some ⟨p, 0, none⟩)]] w fun e w' => e = .returned (.tuple #[fsZ, .int .i64 9]) ∧ Below w.heap.size w w' := by
  have hb0 : Below w.heap.size w ((w.alloc (.cells #[.slice a xs.length cap, .int .i64 q, .int .i64 fu] 25)).alloc (.cells #[.slice none 0 0, .int .i64 0, .int .i64 0] 25)) := ((Below.refl _ _).alloc (Nat.le_refl _) _).alloc (by simp) _
  go_enter Try.func20, Try.ntmps20
  go_wp2_with fail
  refine (openDir_bad a cap xs q fu _ (hx.below hb0) hf hlen hd hv).mono ?_
  rintro e w1 ⟨rfl, hb1⟩
  have hbb := hb0.trans (hb1.mono hb0.size)
  obtain ⟨hc, hz⟩ := bcell hb1
  have hsz := hb1.size
  simp at hsz
  clear hx hb1 hb0
  go_wp2
  refine bodyPost_ret (v := .tuple #[fsZ, .int .i64 9]) (by simp [results, Try.results20, go_sem, hc]) rfl ⟨rfl, ?_⟩
  exact ((hbb.setCell (by dsimp only; omega) _).setCell (by dsimp only; omega) _).setCell (by dsimp only; omega) _

set_option maxRecDepth 100000 in
set_option maxHeartbeats 1000000 in
theorem takeStep_ok (K : Nat) (p : Nat) (a : Option Addr) (cap : Nat) (xs ys : List Fl) (q fu fu' code : Int) (w : World) (hx : Lie w a xs) (hf : Fits xs) (hlen : xs.length ≤ 1048576) (hd : datas xs ≤ 1048576) (hv : vldB xs q fu = true)
    (hry : Rise ys) (hfy : Fits ys) (hly : ys.length ≤ 1048576) (hcall : ∀ (args : Array Value) (w : World), (callFunc K args).run Try.prog w = .ok (.enter K args) w)
    (hstep : ∀ (g mb : Nat) (w2 : World), Below w.heap.size w w2 → Ob w2 g 0 0 mb q fu → Dir w2 mb xs.length (fm xs) →
      Calls Try.prog K #[.pointer (some ⟨g, 0, none⟩), .pointer (some ⟨p, 0, none⟩)] w2 fun e w3 => e = .returned (.int .i64 code) ∧ Ob w3 g 0 0 mb q fu' ∧ Dir w3 mb ys.length (fm ys) ∧ But [g, mb] w2.heap.size w2 w3) :
    Calls Try.prog 20 #[fsV a xs.length cap q fu, .func (.func K) #[] #[.pointer (some ⟨p, 0, none⟩)]] w fun e w' =>
      ∃ a' cap', e = .returned (.tuple #[fsV a' ys.length cap' q fu', .int .i64 code]) ∧ Res w' w.heap.size a' cap' ys ∧ Below w.heap.size w w' := by
  have HS := hstep
  replace HS : Hid _ := HS
  clear hstep
  have hb0 : Below w.heap.size w ((w.alloc (.cells #[.slice a xs.length cap, .int .i64 q, .int .i64 fu] 25)).alloc (.cells #[.slice none 0 0, .int .i64 0, .int .i64 0] 25)) := ((Below.refl _ _).alloc (Nat.le_refl _) _).alloc (by simp) _
  go_enter Try.func20, Try.ntmps20
  go_wp2_with fail
  refine (openDir_ok a cap xs q fu _ (hx.below hb0) hf hlen hd hv).mono ?_
  rintro e w1 ⟨g, mb, rfl, hmb, hg, hne, hobj, hdir, hb1⟩
  have hbb := hb0.trans (hb1.mono hb0.size)
  simp at hmb hg
  have hp1 : w1.heap[w.heap.size + 1]? = some (.cells #[.slice none 0 0, .int .i64 0, .int .i64 0] 25 (0, 0)) := by
    rw [hb1.block _ (by simp)]
    have := World.heap_alloc_new (w.alloc (.cells #[.slice a xs.length cap, .int .i64 q, .int .i64 fu] 25)) (.cells #[.slice none 0 0, .int .i64 0, .int .i64 0] 25)
    have e : (w.alloc (.cells #[.slice a xs.length cap, .int .i64 q, .int .i64 fu] 25)).heap.size = w.heap.size + 1 := by simp
    rw [e] at this
    exact this
  have hs1 : w.heap.size + 1 < w1.heap.size := by have := hb1.size; simp at this; omega
  clear hx hb1 hb0 hv hf
  go_wp2_with fail
  refine (HS.out g mb w1 hbb hobj hdir).mono ?_
  rintro e w2 ⟨rfl, hob2, hdir2, hbut2⟩
  have hb2 : Below w.heap.size w w2 := hbb.trans ((hbut2.mono (by omega)).far (by simp; omega))
  have hp2 : w2.heap[w.heap.size + 1]? = some (.cells #[.slice none 0 0, .int .i64 0, .int .i64 0] 25 (0, 0)) := (hbut2.block _ (by omega) (by simp; omega)).trans hp1
  have hs2 : w.heap.size + 1 < w2.heap.size := Nat.lt_of_lt_of_le hs1 hbut2.size
  clear HS hobj hdir hbut2 hp1 hs1 hbb hcall
  go_wp2_with fail
  refine (plain_any g mb q fu' ys _ hob2 hdir2 hry hfy hly).mono ?_
  rintro e w3 ⟨a', cap', rfl, hres, hb3⟩
  have hbw3 := hb2.trans (hb3.mono hb2.size)
  have hp3 : w3.heap[w.heap.size + 1]? = some (.cells #[.slice none 0 0, .int .i64 0, .int .i64 0] 25 (0, 0)) := (hb3.block _ hs2).trans hp2
  have x0 : w3.cell? ⟨w.heap.size + 1, 0, none⟩ = some (.slice none 0 0) := by simp [World.cell?, hp3]
  have x1 : w3.cell? ⟨w.heap.size + 1, 1, none⟩ = some (.int .i64 0) := by simp [World.cell?, hp3]
  have x2 : w3.cell? ⟨w.heap.size + 1, 2, none⟩ = some (.int .i64 0) := by simp [World.cell?, hp3]
  have f0 : w3.frozen? ⟨w.heap.size + 1, 0, none⟩ = false := by simp [World.frozen?, hp3]
  have f1 : w3.frozen? ⟨w.heap.size + 1, 1, none⟩ = false := by simp [World.frozen?, hp3]
  have f2 : w3.frozen? ⟨w.heap.size + 1, 2, none⟩ = false := by simp [World.frozen?, hp3]
  have hle := hb3.size
  clear hob2 hdir2 hb3 hp2 hp3 hb2
  go_wp2
  refine bodyPost_ret (v := .tuple #[fsV a' ys.length cap' q fu', .int .i64 code]) (by simp [results, Try.results20, go_sem, x0, x1, x2]) rfl ⟨a', cap', rfl, ?_, ?_⟩
  · refine (hres.kept (fun k hk1 hk2 => ?_)).base (by omega)
    rw [Below.heap_setCell _ _ _ _ (by dsimp only; omega), Below.heap_setCell _ _ _ _ (by dsimp only; omega), Below.heap_setCell _ _ _ _ (by dsimp only; omega)]
  · exact ((hbw3.setCell (by dsimp only; omega) _).setCell (by dsimp only; omega) _).setCell (by dsimp only; omega) _
end Go.Proofs.Ytgennghhneckeaa
namespace Go.Proofs.Ytgennghhneckeaa
open Go.RowKit Go.Maps
set_option linter.unusedVariables false
set_option linter.unusedSimpArgs false

theorem three_new (w : World) (o : Obj) (x0 x1 x2 : Value) (t : TypeId) : ((w.alloc o).alloc (.cells #[x0, x1, x2] t)).heap[w.heap.size + 1]? = some (.cells #[x0, x1, x2] t (0, 0)) := by
  have := World.heap_alloc_new (w.alloc o) (.cells #[x0, x1, x2] t)
  have e : (w.alloc o).heap.size = w.heap.size + 1 := by simp
  rw [e] at this
  exact this
theorem three_old (w : World) (o : Obj) (x0 x1 x2 : Value) (t : TypeId) : ((w.alloc (.cells #[x0, x1, x2] t)).alloc o).heap[w.heap.size]? = some (.cells #[x0, x1, x2] t (0, 0)) :=
  (Below.heap_alloc _ _ _ (by simp)).trans (World.heap_alloc_new _ _)

end Go.Proofs.Ytgennghhneckeaa
namespace Go.Proofs.Ytgennghhneckeaa
open Go.RowKit Go.Maps
set_option linter.unusedVariables false
set_option linter.unusedSimpArgs false

/-- The names rise, as a pairwise order. -/
def RiseP (xs : List Fl) : Prop := xs.Pairwise fun f g => lessB f.nm g.nm = true
theorem rise_iff {xs : List Fl} : Rise xs ↔ RiseP xs := by
  unfold Rise RiseP
  rw [List.pairwise_iff_getElem]
  constructor
  · intro h i j hi hj hij
    have := h i j hij hj
    simpa [List.getD, hi, hj] using this
  · intro h i j hij hj
    have := h i j (by omega) hj hij
    simpa [List.getD, hj, show i < xs.length by omega] using this

theorem rise_filter {xs : List Fl} (h : Rise xs) (p : Fl → Bool) : Rise (xs.filter p) := rise_iff.2 ((rise_iff.1 h).filter p)
theorem fits_filter {xs : List Fl} (h : Fits xs) (p : Fl → Bool) : Fits (xs.filter p) := fun f hf => h f (List.mem_filter.1 hf).1

theorem name_iff (f : Fl) (s : ByteArray) : (f.nm.toList == s.toList) = decide (s.data.toList = f.nm.data.toList) := by
  rw [ByteArray.toList_eq, ByteArray.toList_eq, Bool.eq_iff_iff, beq_iff_eq, decide_eq_true_eq]
  exact ⟨fun h => h.symm, fun h => h.symm⟩

theorem fm_wo (xs : List Fl) (s : ByteArray) : fm (wo xs s) = del (fm xs) s.data.toList := by
  funext l
  induction xs with
  | nil => simp [wo, fm, del]
  | cons f r ih =>
    have ih' : fm (wo r s) l = if l = s.data.toList then none else fm r l := ih
    have e : wo (f :: r) s = if s.data.toList = f.nm.data.toList then wo r s else f :: wo r s := by
      unfold wo
      rw [List.filter_cons, name_iff]
      by_cases h : s.data.toList = f.nm.data.toList <;> simp [h]
    rw [e]
    unfold del
    by_cases h : s.data.toList = f.nm.data.toList
    · rw [if_pos h, ih']
      by_cases hl : l = s.data.toList
      · simp [hl]
      · rw [if_neg hl, if_neg hl]
        simp only [fm]
        have : ¬ l = f.nm.data.toList := fun e => hl (e.trans h.symm)
        cases fm r l <;> simp [this]
    · rw [if_neg h]
      simp only [fm, ih']
      by_cases hl : l = s.data.toList
      · rw [if_pos hl, if_pos hl]
        have : ¬ l = f.nm.data.toList := fun e => h (hl.symm.trans e)
        simp [this]
      · rw [if_neg hl, if_neg hl]

theorem wo_found {xs : List Fl} {s : ByteArray} (h : Rise xs) (hf : (fm xs s.data.toList).isSome = true) : (wo xs s).length = xs.length - 1 := by
  have key : ∀ (xs : List Fl), RiseP xs → (fm xs s.data.toList).isSome = true → (wo xs s).length + 1 = xs.length := by
    intro xs
    induction xs with
    | nil => intro _ h; simp [fm] at h
    | cons f r ih =>
      intro hp hs
      obtain ⟨h1, h2⟩ := List.pairwise_cons.1 hp
      by_cases he : s.data.toList = f.nm.data.toList
      · have e1 : wo (f :: r) s = wo r s := by unfold wo; rw [List.filter_cons, name_iff]; simp [he]
        have e2 : wo r s = r := wo_none fun g hg e => by
          have := h1 g hg
          unfold lessB at this
          rw [ByteArray.toList_eq, ByteArray.toList_eq, e, he, less_irrefl] at this
          cases this
        rw [e1, e2]
        simp
      · have e1 : wo (f :: r) s = f :: wo r s := by unfold wo; rw [List.filter_cons, name_iff]; simp [he]
        have hs' : (fm r s.data.toList).isSome = true := by
          simp only [fm] at hs
          cases hr : fm r s.data.toList with
          | some x => rfl
          | none => rw [hr] at hs; simp [he] at hs
        rw [e1, List.length_cons, List.length_cons, ih h2 hs']
  have := key xs (rise_iff.1 h) hf
  omega
theorem cell_of_block1 {W : World} {b : Nat} {x : Value} {t : TypeId} (h : W.heap[b]? = some (.cells #[x] t (0, 0))) : W.cell? ⟨b, 0, none⟩ = some x := by
  unfold World.cell?
  simp only
  rw [h]
  rfl
end Go.Proofs.Ytgennghhneckeaa
namespace Go.Proofs.Ytgennghhneckeaa
open Go.RowKit Go.Maps
set_option linter.unusedVariables false
set_option linter.unusedSimpArgs false

end Go.Proofs.Ytgennghhneckeaa
namespace Go.Proofs.Ytgennghhneckeaa
open Go.RowKit Go.Maps
set_option linter.unusedVariables false
set_option linter.unusedSimpArgs false

/-- What a step leaves and answers. -/
structure Out where
  ys : List Fl
  q : Int
  fu : Int
  cd : Int
def outBad : Out := ⟨[], 0, 0, 9⟩
def outRemove (xs : List Fl) (q fu : Int) (s : ByteArray) : Out :=
  if vldB xs q fu = true then ⟨if atCode fu (nmOk s) (fm xs s.data.toList) = 0 then wo xs s else xs, q, fuel' fu, atCode fu (nmOk s) (fm xs s.data.toList)⟩ else outBad

theorem outRemove_len (xs : List Fl) (q fu : Int) (s : ByteArray) (h : xs.length ≤ 1048576) : (outRemove xs q fu s).ys.length ≤ 1048576 := by
  unfold outRemove
  split
  · dsimp only
    split
    · exact Nat.le_trans (wo_length _ _) h
    · exact h
  · simp [outBad]

end Go.Proofs.Ytgennghhneckeaa
