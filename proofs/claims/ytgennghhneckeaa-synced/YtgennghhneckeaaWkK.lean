import Derived.Test.YtgennghhneckeaaWkL
import Derived.Conc.RwLoneW
import Derived.Maps.AppendAt
namespace Go.Proofs.Ytgennghhneckeaa
open Go.RowKit Go.Maps Go.RwLone
set_option linter.unusedVariables false
set_option linter.unusedSimpArgs false

/-- Below B the world is as it was, but for the blocks of a list. -/
structure But (ex : List Nat) (B : Nat) (w w' : World) : Prop where
  os : w'.os = w.os
  tape : w'.tape = w.tape
  output : w'.output = w.output
  size : w.heap.size ≤ w'.heap.size
  block : ∀ k, k < B → k ∉ ex → w'.heap[k]? = w.heap[k]?

theorem But.of {ex : List Nat} {B : Nat} {w w' : World} (h : Below B w w') : But ex B w w' := ⟨h.os, h.tape, h.output, h.size, fun k hk _ => h.block k hk⟩
theorem But.trans {ex : List Nat} {B : Nat} {a b c : World} (h : But ex B a b) (k : But ex B b c) : But ex B a c :=
  ⟨k.os.trans h.os, k.tape.trans h.tape, k.output.trans h.output, Nat.le_trans h.size k.size, fun i hi hn => (k.block i hi hn).trans (h.block i hi hn)⟩
theorem But.mono {ex : List Nat} {B B' : Nat} {w w' : World} (h : But ex B w w') (hB : B' ≤ B) : But ex B' w w' := ⟨h.os, h.tape, h.output, h.size, fun k hk => h.block k (Nat.lt_of_lt_of_le hk hB)⟩
theorem But.more {ex ex' : List Nat} {B : Nat} {w w' : World} (h : But ex B w w') (hs : ∀ k, k ∈ ex → k ∈ ex') : But ex' B w w' := ⟨h.os, h.tape, h.output, h.size, fun k hk hn => h.block k hk (fun e => hn (hs k e))⟩
theorem But.below {ex : List Nat} {B : Nat} {w w' : World} (h : But ex B w w') (hs : ∀ k, k ∈ ex → k < B → w'.heap[k]? = w.heap[k]?) : Below B w w' :=
  ⟨h.os, h.tape, h.output, h.size, fun k hk => by by_cases hn : k ∈ ex; exact hs k hn hk; exact h.block k hk hn⟩
theorem But.far {ex : List Nat} {B : Nat} {w w' : World} (h : But ex B w w') (hs : ∀ k, k ∈ ex → B ≤ k) : Below B w w' := h.below fun k hk hB => absurd (hs k hk) (by omega)
theorem But.setCell {ex : List Nat} {B : Nat} (w : World) {a : Addr} {v : Value} (ha : a.block ∈ ex) : But ex B w (w.setCell a v) :=
  ⟨rfl, rfl, rfl, by simp [World.setCell], fun k _ hn => Below.heap_setCell _ _ _ _ (fun e => hn (e ▸ ha))⟩
theorem But.turned {ex : List Nat} {B b : Nat} {w w' : World} (h : w.mapTurned w' b) (hb : b ∈ ex) : But ex B w w' := by
  obtain ⟨es, clock, es', clock', e, rfl⟩ := h
  refine ⟨rfl, rfl, rfl, by simp [Go.ChangeMaps.setBlock], fun k _ hn => ?_⟩
  have hne : b ≠ k := fun e' => hn (e' ▸ hb)
  simp [Go.ChangeMaps.setBlock, Array.getElem?_setIfInBounds_ne hne]

/-- The cells of a directory object: the lock's two numbers, the map, quota, fuel. -/
abbrev objC (l0 l4 : Int) (mb : Nat) (q fu : Int) : Array Value := #[.int .i32 l0, .int .u32 0, .int .u32 0, .int .u32 0, .int .i32 l4, .int .i32 0, .map (some mb), .int .i64 q, .int .i64 fu]
/-- A directory object lies at block g. -/
def Ob (w : World) (g : Nat) (l0 l4 : Int) (mb : Nat) (q fu : Int) : Prop := w.heap[g]? = some (.cells (objC l0 l4 mb q fu) 78 (0, 0))

theorem Ob.lt {w : World} {g mb : Nat} {l0 l4 q fu : Int} (h : Ob w g l0 l4 mb q fu) : g < w.heap.size := by
  by_cases hg : g < w.heap.size
  · exact hg
  · unfold Ob at h; rw [Array.getElem?_eq_none (by omega)] at h; cases h
theorem Ob.ne {w : World} {g mb c : Nat} {l0 l4 q fu : Int} {m : List UInt8 → Option (ByteArray × Int)} (h : Ob w g l0 l4 mb q fu) (hd : Dir w mb c m) : g ≠ mb := by
  rintro rfl
  obtain ⟨D, ⟨es, clock, e, _⟩, _⟩ := hd
  unfold Ob at h
  rw [h] at e
  cases e
theorem Ob.block {w w' : World} {g mb : Nat} {l0 l4 q fu : Int} (h : Ob w g l0 l4 mb q fu) (hb : w'.heap[g]? = w.heap[g]?) : Ob w' g l0 l4 mb q fu := hb.trans h
theorem Ob.below {w w' : World} {B g mb : Nat} {l0 l4 q fu : Int} (h : Ob w g l0 l4 mb q fu) (hb : Below B w w') (hg : g < B) : Ob w' g l0 l4 mb q fu := h.block (hb.block g hg)
theorem Ob.cells {w : World} {g mb : Nat} {l0 l4 q fu : Int} (h : Ob w g l0 l4 mb q fu) :
    w.cell? ⟨g, 6, none⟩ = some (.map (some mb)) ∧ w.cell? ⟨g, 7, none⟩ = some (.int .i64 q) ∧ w.cell? ⟨g, 8, none⟩ = some (.int .i64 fu) ∧ w.frozen? ⟨g, 8, none⟩ = false := by
  unfold Ob at h
  exact ⟨by simp [World.cell?, h], by simp [World.cell?, h], by simp [World.cell?, h], by simp [World.frozen?, h]⟩
theorem Ob.fuel {w : World} {g mb : Nat} {l0 l4 q fu : Int} (h : Ob w g l0 l4 mb q fu) (f : Int) : Ob (w.setCell ⟨g, 8, none⟩ (.int .i64 f)) g l0 l4 mb q f := by
  unfold Ob at *
  rw [heap_setCell_same w g 8 _ _ _ h]
  rfl

/-- The writer's lock of a directory that nobody holds. -/
theorem wlock_dir (g mb : Nat) (q fu : Int) (w : World) (h : Ob w g 0 0 mb q fu) :
    Calls Try.prog 35 #[.pointer (some ⟨g, 0, none⟩)] w fun e w' => e = .returned (.tuple #[]) ∧ Ob w' g 1 (-1073741824) mb q fu ∧ But [g] w.heap.size w w' ∧ w'.heap.size = w.heap.size := by
  have h' := h
  unfold Ob at h'
  refine (wlock_free rwWLib g 0 (.int .u32 0) (.int .u32 0) w (by simp [World.cell?, h']) (by simp [World.cell?, h']) (by simp [World.cell?, h']) (by simp [World.cell?, h']) (by simp [World.frozen?, h']) (by simp [World.frozen?, h'])).mono ?_
  rintro e w' ⟨rfl, rfl⟩
  refine ⟨rfl, ?_, (But.setCell w (by simp)).trans (But.setCell _ (by simp)), by simp⟩
  have e1 := heap_setCell_same w g 0 _ _ (.int .i32 1) h'
  exact heap_setCell_same _ g 4 _ _ (.int .i32 (-1073741824)) e1

/-- .. and let go by a deferred call. -/
theorem wunlock_dir (g mb : Nat) (q fu : Int) (u : FrameMode) (w : World) (h : Ob w g 1 (-1073741824) mb q fu) :
    CallsD Try.prog 36 #[.pointer (some ⟨g, 0, none⟩)] u w fun e u' w' => u' = u ∧ (e = .returned (.tuple #[]) ∧ Ob w' g 0 0 mb q fu ∧ But [g] w.heap.size w w' ∧ w'.heap.size = w.heap.size) := by
  have h' := h
  unfold Ob at h'
  refine (wunlock_deferred rwWLib g 0 (.int .u32 0) (.int .u32 0) u w (by simp [World.cell?, h']) (by simp [World.cell?, h']) (by simp [World.cell?, h']) (by simp [World.cell?, h']) (by simp [World.frozen?, h']) (by simp [World.frozen?, h'])).mono ?_
  rintro e u' w' ⟨rfl, rfl, rfl⟩
  refine ⟨rfl, rfl, ?_, (But.setCell w (by simp)).trans (But.setCell _ (by simp)), by simp⟩
  have e1 := heap_setCell_same w g 4 _ _ (.int .i32 0) h'
  exact heap_setCell_same _ g 0 _ _ (.int .i32 0) e1

/-- Texts lie one behind the other from ⟨b, off⟩ on. -/
def LieN (w : World) (a : Option Addr) (ns : List ByteArray) : Prop :=
  ns = [] ∨ ∃ b off, a = some ⟨b, off, none⟩ ∧ b < w.heap.size ∧ ∀ i, i < ns.length → w.cell? ⟨b, off + i, none⟩ = some (.string (ns.getD i ByteArray.empty))

theorem LieN.at {w : World} {a : Option Addr} {ns : List ByteArray} (h : LieN w a ns) {i : Nat} (hi : i < ns.length) :
    ∃ b off, a = some ⟨b, off, none⟩ ∧ b < w.heap.size ∧ w.cell? ⟨b, off + i, none⟩ = some (.string (ns.getD i ByteArray.empty)) := by
  rcases h with rfl | ⟨b, off, rfl, hlt, hc⟩
  · simp at hi
  · exact ⟨b, off, rfl, hlt, hc i hi⟩

/-- What begin answers, and the fuel behind it. -/
def bgn (fu : Int) (ok : Bool) : Int := if fu = 0 then 8 else if ok then 0 else 2
def fuel' (fu : Int) : Int := if 0 < fu then fu - 1 else fu

set_option maxHeartbeats 1000000 in
theorem begin_dead (g mb : Nat) (l0 l4 q : Int) (a : Option Addr) (cap : Nat) (ns : List ByteArray) (w : World) (h : Ob w g l0 l4 mb q 0) :
    Calls Try.prog 59 #[.pointer (some ⟨g, 0, none⟩), .slice a ns.length cap] w fun e w' => e = .returned (.int .i64 8) ∧ w' = w := by
  obtain ⟨c6, c7, c8, z8⟩ := h.cells
  go_enter Try.func59, Try.ntmps59
  go_wp2
  go_ret
  exact ⟨rfl, rfl⟩

theorem all_names {ns : List ByteArray} {k : Nat} (h : ∀ j, j < k → nmOk (ns.getD j ByteArray.empty) = true) (hk : k < ns.length) (hb : nmOk (ns.getD k ByteArray.empty) = false) : ns.all nmOk = false := by
  rw [List.all_eq_false]
  refine ⟨ns[k], List.getElem_mem hk, ?_⟩
  have : ns.getD k ByteArray.empty = ns[k] := by simp [List.getD, hk]
  rw [← this, hb]
  simp
theorem all_names_full {ns : List ByteArray} (h : ∀ j, j < ns.length → nmOk (ns.getD j ByteArray.empty) = true) : ns.all nmOk = true := by
  rw [List.all_eq_true]
  intro s hs
  obtain ⟨i, hi, rfl⟩ := List.getElem_of_mem hs
  have := h i hi
  simpa [List.getD, hi] using this

set_option maxHeartbeats 1000000 in
/-- begin with steps to live. -/
theorem begin_live (g mb : Nat) (l0 l4 q fu : Int) (a : Option Addr) (cap : Nat) (ns : List ByteArray) (w : World) (h : Ob w g l0 l4 mb q fu) (hfu : fu ≠ 0) (hlo : -1 ≤ fu) (hhi : fu ≤ 9223372036854775807) (hn : LieN w a ns) (hf : ∀ s ∈ ns, s.size ≤ maxLen) (hlen : ns.length ≤ 2)
    (hgb : ∀ b off, a = some ⟨b, off, none⟩ → b ≠ g) (r : Int) (HR : Hid (r = if ns.all nmOk = true then 0 else 2)) :
    Calls Try.prog 59 #[.pointer (some ⟨g, 0, none⟩), .slice a ns.length cap] w fun e w' => e = .returned (.int .i64 r) ∧ Ob w' g l0 l4 mb q (fuel' fu) ∧ But [g] w.heap.size w w' ∧ w'.heap.size = w.heap.size := by
  obtain ⟨c6, c7, c8, z8⟩ := h.cells
  have g0 : (fu == 0) = false := by simpa using hfu
  have HF : Hid (∀ s ∈ ns, s.size ≤ maxLen) := hf
  have HG : Hid (∀ b off, a = some ⟨b, off, none⟩ → b ≠ g) := hgb
  clear hf hgb
  by_cases hpos : 0 < fu
  · have hob : Ob (w.setCell ⟨g, 8, none⟩ (.int .i64 (fu - 1))) g l0 l4 mb q (fuel' fu) := by
      have := h.fuel (fu - 1)
      rwa [show fu - 1 = fuel' fu by simp [fuel', hpos]] at this ⊢
    go_enter Try.func59, Try.ntmps59
    go_wp2
    go_loop [26] (fun i => ∃ k : Nat, k ≤ ns.length ∧ i = .int .i64 k ∧ Hid (∀ j, j < k → nmOk (ns.getD j ByteArray.empty) = true)) (fun i => ns.length - (intOf i).toNat)
    case atStart => exact ⟨0, Nat.zero_le _, rfl, fun j hj => absurd hj (Nat.not_lt_zero _)⟩
    case round =>
      obtain ⟨k, hk, rfl, HK⟩ := hrel
      by_cases hlt : k < ns.length
      · obtain ⟨b, off, rfl, hbl, d0⟩ := hn.at hlt
        have hbg : b ≠ g := HG.out b off rfl
        have hsz : (ns.getD k ByteArray.empty).size ≤ maxLen := by
          have : ns.getD k ByteArray.empty = ns[k] := by simp [List.getD, hlt]
          rw [this]; exact HF.out _ (List.getElem_mem hlt)
        have d1 : (w.setCell ⟨g, 8, none⟩ (.int .i64 (fu - 1))).cell? ⟨b, off + k, none⟩ = some (.string (ns.getD k ByteArray.empty)) := (World.cell?_setCell_other _ ⟨g, 8, none⟩ ⟨b, off + k, none⟩ _ (by simp [hbg.symm])).trans d0
        have HNA : nmOk (ns.getD k ByteArray.empty) = false → Hid (r = 2) := fun e => by show _ = _; rw [HR.out, all_names HK.out hlt e]; rfl
        have HNS : nmOk (ns.getD k ByteArray.empty) = true → Hid (∀ j, j < k + 1 → nmOk (ns.getD j ByteArray.empty) = true) := fun e j hj => by
          by_cases hjk : j = k
          · rw [hjk]; exact e
          · exact HK.out j (by omega)
        generalize ns.getD k ByteArray.empty = s at *
        cases hs : nmOk s with
        | true =>
          have HN := HNS hs
          clear HNS HNA
          go_wp2_with (go_at_call 60; refine (goodFileName_any s _ hsz).mono ?_; rintro e w' ⟨rfl, rfl⟩)
          exact ⟨⟨k + 1, by omega, by go_num, HN⟩, by simp [intOf]; omega⟩
        | false =>
          have HN := HNA hs
          clear HNS HNA
          go_wp2_with (go_at_call 60; refine (goodFileName_any s _ hsz).mono ?_; rintro e w' ⟨rfl, rfl⟩)
          go_ret
          exact ⟨ret_int HN.out.symm, hob, But.setCell w (by simp), by simp⟩
      · obtain rfl : k = ns.length := by omega
        have HN : Hid (r = 0) := by show _ = _; rw [HR.out, all_names_full HK.out]; rfl
        go_wp2
        go_ret
        exact ⟨ret_int HN.out.symm, hob, But.setCell w (by simp), by simp⟩
  · have hob : Ob w g l0 l4 mb q (fuel' fu) := by rwa [show fuel' fu = fu by simp [fuel', hpos]]
    go_enter Try.func59, Try.ntmps59
    go_wp2
    go_loop [26] (fun i => ∃ k : Nat, k ≤ ns.length ∧ i = .int .i64 k ∧ Hid (∀ j, j < k → nmOk (ns.getD j ByteArray.empty) = true)) (fun i => ns.length - (intOf i).toNat)
    case atStart => exact ⟨0, Nat.zero_le _, rfl, fun j hj => absurd hj (Nat.not_lt_zero _)⟩
    case round =>
      obtain ⟨k, hk, rfl, HK⟩ := hrel
      by_cases hlt : k < ns.length
      · obtain ⟨b, off, rfl, hbl, d0⟩ := hn.at hlt
        have hsz : (ns.getD k ByteArray.empty).size ≤ maxLen := by
          have : ns.getD k ByteArray.empty = ns[k] := by simp [List.getD, hlt]
          rw [this]; exact HF.out _ (List.getElem_mem hlt)
        have HNA : nmOk (ns.getD k ByteArray.empty) = false → Hid (r = 2) := fun e => by show _ = _; rw [HR.out, all_names HK.out hlt e]; rfl
        have HNS : nmOk (ns.getD k ByteArray.empty) = true → Hid (∀ j, j < k + 1 → nmOk (ns.getD j ByteArray.empty) = true) := fun e j hj => by
          by_cases hjk : j = k
          · rw [hjk]; exact e
          · exact HK.out j (by omega)
        generalize ns.getD k ByteArray.empty = s at *
        cases hs : nmOk s with
        | true =>
          have HN := HNS hs
          clear HNS HNA
          go_wp2_with (go_at_call 60; refine (goodFileName_any s _ hsz).mono ?_; rintro e w' ⟨rfl, rfl⟩)
          exact ⟨⟨k + 1, by omega, by go_num, HN⟩, by simp [intOf]; omega⟩
        | false =>
          have HN := HNA hs
          clear HNS HNA
          go_wp2_with (go_at_call 60; refine (goodFileName_any s _ hsz).mono ?_; rintro e w' ⟨rfl, rfl⟩)
          go_ret
          exact ⟨ret_int HN.out.symm, hob, But.of (Below.refl _ _), rfl⟩
      · obtain rfl : k = ns.length := by omega
        have HN : Hid (r = 0) := by show _ = _; rw [HR.out, all_names_full HK.out]; rfl
        go_wp2
        go_ret
        exact ⟨ret_int HN.out.symm, hob, But.of (Below.refl _ _), rfl⟩

/-- begin, all ways. -/
theorem begin_any (g mb : Nat) (l0 l4 q fu : Int) (a : Option Addr) (cap : Nat) (ns : List ByteArray) (w : World) (h : Ob w g l0 l4 mb q fu) (hlo : -1 ≤ fu) (hhi : fu ≤ 9223372036854775807) (hn : LieN w a ns) (hf : ∀ s ∈ ns, s.size ≤ maxLen) (hlen : ns.length ≤ 2)
    (hgb : ∀ b off, a = some ⟨b, off, none⟩ → b ≠ g) :
    Calls Try.prog 59 #[.pointer (some ⟨g, 0, none⟩), .slice a ns.length cap] w fun e w' => e = .returned (.int .i64 (bgn fu (ns.all nmOk))) ∧ Ob w' g l0 l4 mb q (fuel' fu) ∧ But [g] w.heap.size w w' ∧ w'.heap.size = w.heap.size := by
  by_cases hfu : fu = 0
  · subst hfu
    refine (begin_dead g mb l0 l4 q a cap ns w h).mono ?_
    rintro e w' ⟨rfl, rfl⟩
    exact ⟨rfl, h, But.of (Below.refl _ _), rfl⟩
  · refine (begin_live g mb l0 l4 q fu a cap ns w h hfu hlo hhi hn hf hlen hgb _ rfl).mono ?_
    rintro e w' ⟨rfl, h1, h2, h3⟩
    exact ⟨by simp [bgn, hfu], h1, h2, h3⟩
end Go.Proofs.Ytgennghhneckeaa
namespace Go.Proofs.Ytgennghhneckeaa
open Go.RowKit Go.Maps
set_option linter.unusedVariables false
set_option linter.unusedSimpArgs false

theorem string_info : (Try.prog.info? 9).map (fun i => (i.zero, i.size, i.bytes)) = some (some (.string ByteArray.empty), 1, 16) := by kernel_rfl

/-- A row of texts that the call owns, as a slice whose texts lie in memory. -/
theorem lie_of_owns {w : World} {B n : Nat} {v : Value} {ns : List ByteArray} (h : w.ownsRow B 9 1 v n (ns.map Value.string)) :
    n = ns.length ∧ ∃ a cap, v = .slice a ns.length cap ∧ LieN w a ns ∧ ∀ b off, a = some ⟨b, off, none⟩ → B ≤ b := by
  obtain ⟨h1, h2⟩ := h
  have hn : n = ns.length := by simpa using h1.symm
  refine ⟨hn, ?_⟩
  subst hn
  rcases h2 with ⟨rfl, h0⟩ | ⟨g, cap, cur, rfl, hg, hb, hl, hm, hsz, htk⟩
  · exact ⟨none, 0, by rw [h0], .inl (by simpa using h0), fun b off e => by cases e⟩
  · refine ⟨some ⟨g, 0, none⟩, cap, rfl, .inr ⟨g, 0, rfl, ?_, fun i hi => ?_⟩, fun b off e => by simp only [Option.some.injEq, Addr.mk.injEq] at e; omega⟩
    · by_cases hlt : g < w.heap.size
      · exact hlt
      · rw [Array.getElem?_eq_none (by omega)] at hb; cases hb
    · have e1 : (cur.toList.take (ns.length * 1))[i]? = (ns.map Value.string)[i]? := by rw [htk]
      rw [List.getElem?_take_of_lt (by omega)] at e1
      simp [World.cell?, hb]
      have e2 : cur[i]? = cur.toList[i]? := by simp
      rw [e2, e1]
      simp [hi]

/-- What beginAt answers. -/
def atCode (fu : Int) (ok : Bool) (o : Option (ByteArray × Int)) : Int := if bgn fu ok ≠ 0 then bgn fu ok else if o.isSome then 0 else 1
def atCont (fu : Int) (ok : Bool) (o : Option (ByteArray × Int)) : ByteArray × Int := if atCode fu ok o = 0 then o.getD (ByteArray.empty, 0) else (ByteArray.empty, 0)

theorem owns_base {w : World} {B n size : Nat} {e : TypeId} {v : Value} {xs : List Value} (h : w.ownsRow B e size v n xs) : ∀ k, v.ownBlock = some k → B ≤ k := by
  intro k hk
  rcases h.2 with ⟨rfl, _⟩ | ⟨g, cap, cur, rfl, hg, _⟩
  · cases hk
  · simp [Value.ownBlock] at hk
    omega

theorem cell_second (w : World) (o : Obj) (x : Value) (t : TypeId) : ∀ j u, [x][j]? = some u → ((w.alloc o).alloc (.cells #[x] t)).cell? ((⟨w.heap.size + 1, 0, none⟩ : Addr).add j) = some u := by
  have := cell_one_new (w.alloc o) x t
  have e : (w.alloc o).heap.size = w.heap.size + 1 := by simp
  rw [e] at this
  exact this

theorem at_end {w w4 : World} {g mb B p : Nat} {l0 l4 q fu : Int} (hbut : But [g] B w w4) (hob : Ob w4 g l0 l4 mb q fu) (hg : g < B) (hB : B ≤ p) (v0 v1 : Value) :
    Ob ((w4.setCell ⟨p, 0, none⟩ v0).setCell ⟨p, 1, none⟩ v1) g l0 l4 mb q fu ∧ But [g] B w ((w4.setCell ⟨p, 0, none⟩ v0).setCell ⟨p, 1, none⟩ v1) := by
  have hb : Below B w4 ((w4.setCell ⟨p, 0, none⟩ v0).setCell ⟨p, 1, none⟩ v1) := ((Below.refl B w4).setCell hB v0).setCell hB v1
  exact ⟨hob.below hb hg, hbut.trans (But.of hb)⟩
theorem at_end' {w w4 : World} {g mb B p : Nat} {l0 l4 q fu : Int} (hbut : But [g] B w w4) (hob : Ob w4 g l0 l4 mb q fu) (hg : g < B) (hB : B ≤ p) (hp : p < w4.heap.size) (v0 v1 : Value) (o : Obj) :
    Ob (((w4.setCell ⟨p, 0, none⟩ v0).setCell ⟨p, 1, none⟩ v1).alloc o) g l0 l4 mb q fu ∧ But [g] B w (((w4.setCell ⟨p, 0, none⟩ v0).setCell ⟨p, 1, none⟩ v1).alloc o) := by
  have hb : Below B w4 (((w4.setCell ⟨p, 0, none⟩ v0).setCell ⟨p, 1, none⟩ v1).alloc o) := (((Below.refl B w4).setCell hB v0).setCell hB v1).alloc (by simp; omega) o
  exact ⟨hob.below hb hg, hbut.trans (But.of hb)⟩

set_option maxRecDepth 100000 in
set_option maxHeartbeats 1000000 in
theorem beginAt_any (g mb c B : Nat) (l0 l4 q fu : Int) (a : Option Addr) (cap : Nat) (ns : List ByteArray) (s : ByteArray) (m : List UInt8 → Option (ByteArray × Int)) (w : World) (h : Ob w g l0 l4 mb q fu) (hd : Dir w mb c m) (hlo : -1 ≤ fu) (hhi : fu ≤ 9223372036854775807)
    (hn : w.ownsRow B 9 1 (.slice a ns.length cap) ns.length (ns.map Value.string)) (hgB : g < B) (hmB : mb < B) (hB : B ≤ w.heap.size) (hf : ∀ s ∈ ns, s.size ≤ maxLen) (hs : s.size ≤ maxLen) (hlen : ns.length ≤ 1) :
    Calls Try.prog 37 #[.pointer (some ⟨g, 0, none⟩), .string s, .slice a ns.length cap] w fun e w' =>
      e = .returned (.tuple #[contV (atCont fu ((ns ++ [s]).all nmOk) (m s.data.toList)).1 (atCont fu ((ns ++ [s]).all nmOk) (m s.data.toList)).2, .int .i64 (atCode fu ((ns ++ [s]).all nmOk) (m s.data.toList))]) ∧
      Ob w' g l0 l4 mb q (fuel' fu) ∧ But [g] B w w' := by
  have hne := h.ne hd
  obtain ⟨i0, hi, hz0, hz1, hz2⟩ := info_parts string_info
  generalize hok : (ns ++ [s]).all nmOk = ok
  generalize hm : m s.data.toList = o
  generalize hcd : atCode fu ok o = cd
  generalize hct : atCont fu ok o = ct
  have HOK : Hid ((ns ++ [s]).all nmOk = ok) := hok
  have HM : Hid (m s.data.toList = o) := hm
  have HC : Hid (atCode fu ok o = cd) := hcd
  have HT : Hid (atCont fu ok o = ct) := hct
  clear hok hm hcd hct
  obtain ⟨ct0, ct1⟩ := ct
  go_enter Try.func37, Try.ntmps37
  go_wp2_with (at_builtin; refine wpList_append_own _ rfl _ _ 86 rfl B 9 i0 (.string ByteArray.empty) 1 16 Try.underlying86 hi hz0 hz1 hz2 rfl (by decide) _ _ _ rfl ((hn.alloc _).alloc _) ⟨w.heap.size + 1, 0, none⟩ 1 1 [.string s] rfl rfl (cell_second _ _ _ _) (fun x hx => by simp at hx; subst hx; rfl) (by unfold maxLen; omega) (by omega) (by simp; omega) ?_; intro v' w3 hown' hgrow3 hnil3)
  replace hgrow3 : ((w.alloc (.cells #[.string ByteArray.empty, .int .i64 0] 80)).alloc (.cells #[.string s] 9)).grownBy w3 (Value.slice a ns.length cap).ownBlock := hgrow3
  have hb3 : Below B w w3 := (((Below.refl B w).alloc hB _).alloc (by simp; omega) _).grown hgrow3 (by simp; omega) (owns_base hn)
  have hp3 : w3.cell? ⟨w.heap.size, 0, none⟩ = some (.string ByteArray.empty) ∧ w3.cell? ⟨w.heap.size, 1, none⟩ = some (.int .i64 0) ∧ w3.frozen? ⟨w.heap.size, 0, none⟩ = false ∧ w3.frozen? ⟨w.heap.size, 1, none⟩ = false := by
    have hbk : w3.heap[w.heap.size]? = ((w.alloc (.cells #[.string ByteArray.empty, .int .i64 0] 80)).alloc (.cells #[.string s] 9)).heap[w.heap.size]? := by
      refine hgrow3.block w.heap.size (by simp; omega) (fun e => ?_)
      rcases hn.2 with ⟨e0, _⟩ | ⟨g', cap', cur, e0, hg', hbb, _⟩
      · rw [e0] at e; cases e
      · rw [e0] at e
        simp [Value.ownBlock] at e
        rw [← e, Array.getElem?_eq_none (Nat.le_refl _)] at hbb
        cases hbb
    refine ⟨(World.cell?_of_block hbk).trans (by simp), (World.cell?_of_block hbk).trans (by simp), (World.frozen?_of_block hbk).trans (by simp), (World.frozen?_of_block hbk).trans (by simp)⟩
  have hsz3 : w.heap.size + 1 < w3.heap.size := by have := hgrow3.size; simp at this; omega
  have hmap : ns.map Value.string ++ [Value.string s] = (ns ++ [s]).map Value.string := by simp
  rw [hmap] at hown'
  obtain ⟨-, a', cap', hv', hlie, hbase⟩ := lie_of_owns hown'
  rw [hv']
  clear hown' hgrow3 hnil3 hmap hv' hn hi hz0 hz1 hz2
  refine (begin_any g mb l0 l4 q fu a' cap' (ns ++ [s]) w3 (h.below hb3 hgB) hlo hhi hlie ?_ (by simp; omega) (fun b off e => by have := hbase b off e; omega)).mono ?_
  · intro x hx
    rcases List.mem_append.1 hx with h' | h'
    · exact hf x h'
    · simp at h'; rw [h']; exact hs
  rintro e w4 ⟨rfl, hob4, hbut4, hsz4⟩
  rw [HOK.out]
  dsimp only
  clear hlie hbase
  have hbut : But [g] B w w4 := (But.of hb3).trans (hbut4.mono (by omega))
  have hd4 : Dir w4 mb c m := hd.block (hbut.block mb hmB (by simpa using hne.symm))
  have hgs : w.heap.size ≠ g := by omega
  have b4 : w4.heap[w.heap.size]? = w3.heap[w.heap.size]? := hbut4.block _ (by omega) (by simpa using hgs)
  obtain ⟨x0, x1, z0, z1⟩ := hp3
  replace x0 := (World.cell?_of_block (a := ⟨w.heap.size, 0, none⟩) b4).trans x0
  replace x1 := (World.cell?_of_block (a := ⟨w.heap.size, 1, none⟩) b4).trans x1
  replace z0 := (World.frozen?_of_block (a := ⟨w.heap.size, 0, none⟩) b4).trans z0
  replace z1 := (World.frozen?_of_block (a := ⟨w.heap.size, 1, none⟩) b4).trans z1
  have hlk := hd4.look hs
  rw [HM.out] at hlk
  obtain ⟨c6, c7, c8, z8⟩ := hob4.cells
  have hsz5 : w.heap.size < w4.heap.size := by omega
  clear b4 hbut4 hb3 h hd hd4 hsz4 hsz3 hf hne hgs hlen HM HOK c7 c8 z8 hlo hhi hmB
  by_cases hb0 : bgn fu ok = 0
  · rw [hb0]
    cases o with
    | none =>
      have e1 : Hid (cd = 1) := HC.out.symm.trans (by simp [atCode, hb0])
      have e2 : Hid ((ct0, ct1) = ((ByteArray.empty, 0) : ByteArray × Int)) := HT.out.symm.trans (by simp [atCont, atCode, hb0])
      clear hb0
      simp only [Option.getD_none, Option.isSome_none] at hlk
      go_wp2
      refine bodyPost_ret (v := .tuple #[contV ⟨#[]⟩ 0, .int .i64 1]) (by simp [results, Try.results37, go_sem, x0, x1, hsz5]) rfl ⟨?_, at_end' hbut hob4 hgB hB hsz5 _ _ _⟩
      have e3 := e2.out
      simp only [Prod.mk.injEq] at e3
      rw [e3.1, e3.2, e1.out]
      rfl
    | some x =>
      have e1 : Hid (cd = 0) := HC.out.symm.trans (by simp [atCode, hb0])
      have e2 : Hid ((ct0, ct1) = x) := HT.out.symm.trans (by simp [atCont, atCode, hb0])
      clear hb0
      simp only [Option.getD_some, Option.isSome_some] at hlk
      go_wp2
      refine bodyPost_ret (v := .tuple #[contV x.1 x.2, .int .i64 0]) (by simp [results, Try.results37, go_sem, x0, x1, hsz5]) rfl ⟨?_, at_end' hbut hob4 hgB hB hsz5 _ _ _⟩
      have e3 := e2.out
      rw [← e3, e1.out]
  · have hbt : (bgn fu ok != 0) = true := by simpa using hb0
    have e1 : Hid (cd = bgn fu ok) := HC.out.symm.trans (by simp [atCode, hb0])
    have e2 : Hid ((ct0, ct1) = ((ByteArray.empty, 0) : ByteArray × Int)) := HT.out.symm.trans (by simp [atCont, atCode, hb0])
    clear hb0
    go_wp2
    refine bodyPost_ret (v := .tuple #[contV ⟨#[]⟩ 0, .int .i64 (bgn fu ok)]) (by simp [results, Try.results37, go_sem, x0, x1]) rfl ⟨?_, at_end hbut hob4 hgB hB _ _⟩
    have e3 := e2.out
    simp only [Prod.mk.injEq] at e3
    rw [e3.1, e3.2, e1.out]
    rfl
end Go.Proofs.Ytgennghhneckeaa
namespace Go.Proofs.Ytgennghhneckeaa
open Go.RowKit Go.Maps
set_option linter.unusedVariables false
set_option linter.unusedSimpArgs false

section
variable (w : World) {ops : Array Oper} {rest : List Oper} {o : Oper} {a : Act} {Q : Exit → Act → World → Prop}
/-- 'delete(m, k)' on a directory's map. -/
theorem wpList_delete_dir (hg : o.guard = none) (m x : Operand) (hop : o.op = Op.call { callee := Callee.builtin Builtin.delete, args := #[m, x], argTypes := #[76, 9] })
    {b c : Nat} {mm : List UInt8 → Option (ByteArray × Int)} {s : ByteArray} (hm : a.eval m = .map (some b)) (hx : a.eval x = .string s) (hd : Dir w b c mm) (hs : s.size ≤ maxLen)
    (hK : ∀ w', Dir w' b (if (mm s.data.toList).isSome then c - 1 else c) (del mm s.data.toList) → w.mapTurned w' b → wpList Try.prog ops Q rest (a.put o.dst (.tuple #[])) w') :
    wpList Try.prog ops Q (o :: rest) a w := by
  refine wpList_plain hg fun K' hK' => ?_
  obtain ⟨w', hrun, r1, r2⟩ := hd.drop hs o.type
  unfold Oper.wp
  simp [execOp, hop, resolve, invoke, builtin, hm, hx, hrun, Result.andThen]
  exact hK' _ _ (hK w' r1 r2)
/-- 'len(m)'. -/
theorem wpList_len_dir (hg : o.guard = none) (m : Operand) (hop : o.op = Op.call { callee := Callee.builtin Builtin.len, args := #[m], argTypes := #[76] })
    {b c : Nat} {mm : List UInt8 → Option (ByteArray × Int)} (hm : a.eval m = .map (some b)) (hd : Dir w b c mm)
    (hK : wpList Try.prog ops Q rest (a.put o.dst (.int .i64 c)) w) :
    wpList Try.prog ops Q (o :: rest) a w := by
  refine wpList_plain hg fun K' hK' => ?_
  unfold Oper.wp
  simp [execOp, hop, resolve, invoke, builtin, hm, hd.len o.type, Result.andThen]
  exact hK' _ _ hK
end

/-- The locked object, and all that was there but for it. -/
theorem dir_kept {w w1 : World} {ex : List Nat} {B mb c : Nat} {m : List UInt8 → Option (ByteArray × Int)} (hd : Dir w mb c m) (h : But ex B w w1) (hB : mb < B) (hn : mb ∉ ex) : Dir w1 mb c m := hd.block (h.block mb hB hn)

/-- beginAt with no other name. -/
theorem beginAt_nil (g mb c : Nat) (l0 l4 q fu : Int) (s : ByteArray) (m : List UInt8 → Option (ByteArray × Int)) (w : World) (h : Ob w g l0 l4 mb q fu) (hd : Dir w mb c m) (hlo : -1 ≤ fu) (hhi : fu ≤ 9223372036854775807) (hs : s.size ≤ maxLen) :
    Calls Try.prog 37 #[.pointer (some ⟨g, 0, none⟩), .string s, .slice none 0 0] w fun e w' =>
      e = .returned (.tuple #[contV (atCont fu (nmOk s) (m s.data.toList)).1 (atCont fu (nmOk s) (m s.data.toList)).2, .int .i64 (atCode fu (nmOk s) (m s.data.toList))]) ∧
      Ob w' g l0 l4 mb q (fuel' fu) ∧ But [g] w.heap.size w w' := by
  have := beginAt_any g mb c w.heap.size l0 l4 q fu none 0 [] s m w h hd hlo hhi ⟨rfl, .inl ⟨rfl, rfl⟩⟩ h.lt hd.lt (Nat.le_refl _) (fun x hx => by cases hx) hs (by simp)
  have e : ([] ++ [s]).all nmOk = nmOk s := by simp
  rw [e] at this
  exact this

theorem atCode_some {fu : Int} {ok : Bool} {o : Option (ByteArray × Int)} (h : atCode fu ok o = 0) : ∃ x, o = some x := by
  unfold atCode at h
  cases o with
  | some x => exact ⟨x, rfl⟩
  | none =>
    exfalso
    split at h
    · exact absurd h (by assumption)
    · simp at h

end Go.Proofs.Ytgennghhneckeaa
