import Derived.Test.YtgkhjjnhikbdaaaNwQ
namespace Go.Proofs.Ytgkhjjnhikbdaaa
open Go.RowKit Go.Maps
set_option linter.unusedVariables false
set_option linter.unusedSimpArgs false

/-- A source: the block of its place, the block of its list, the list. -/
structure SD where
  pa : Nat
  pl : Nat
  a : Option Addr
  cap : Nat
  xs : List En
def sd0 : SD := ⟨0, 0, none, 0, []⟩
abbrev SD.fn (c : SD) : Value := .func (.func 31) #[] #[.pointer (some ⟨c.pa, 0, none⟩), .pointer (some ⟨c.pl, 0, none⟩)]
/-- The source has given i entries. -/
structure SrcAt (w : World) (c : SD) (i : Nat) : Prop where
  at_ : w.heap[c.pa]? = some (.cells #[.int .i64 (i : Int)] 3 (0, 0))
  li : w.heap[c.pl]? = some (.cells #[.slice c.a c.xs.length c.cap] 24 (0, 0))
  ls : LieE w c.a c.xs
  le : i ≤ c.xs.length
  ln : c.xs.length ≤ 1048576
theorem SrcAt.below {w w' : World} {c : SD} {i : Nat} (h : SrcAt w c i) (hb : Below w.heap.size w w') : SrcAt w' c i :=
  ⟨(hb.block _ (heap_lt h.at_)).trans h.at_, (hb.block _ (heap_lt h.li)).trans h.li, h.ls.below hb, h.le, h.ln⟩
theorem oneN {w : World} {g : Nat} {v : Value} {t : TypeId} (h : w.heap[g]? = some (.cells #[v] t (0, 0))) : w.cell? ⟨g, 0, none⟩ = some v ∧ w.frozen? ⟨g, 0, none⟩ = false := by
  constructor <;> simp [World.cell?, World.frozen?, h]
set_option maxRecDepth 100000 in
set_option maxHeartbeats 4000000 in
theorem sourceOf_any (a : Option Addr) (cap : Nat) (xs : List En) (w : World) (hx : LieE w a xs) (hl : xs.length ≤ 1048576) :
    Calls Try.prog 20 #[.slice a xs.length cap] w fun e w' => e = .returned (SD.fn ⟨w.heap.size + 1, w.heap.size, a, cap, xs⟩) ∧ w'.heap.size = w.heap.size + 2 ∧ SrcAt w' ⟨w.heap.size + 1, w.heap.size, a, cap, xs⟩ 0 ∧ Below w.heap.size w w' := by
  go_enter Try.func20, Try.ntmps20
  go_wp2_with fail
  go_ret
  refine ⟨rfl, by simp, ⟨?_, ?_, ?_, Nat.zero_le _, hl⟩, ?_⟩
  · have h := World.heap_alloc_new (w.alloc (.cells #[.slice a xs.length cap] 24)) (.cells #[.int .i64 0] 3)
    rwa [show (w.alloc (.cells #[.slice a xs.length cap] 24)).heap.size = w.heap.size + 1 by simp] at h
  · rw [Below.heap_alloc _ _ _ (by simp)]; exact World.heap_alloc_new _ _
  · exact hx.below (((Below.refl _ _).alloc (Nat.le_refl _) _).alloc (by simp) _)
  · exact ((Below.refl _ _).alloc (Nat.le_refl _) _).alloc (by simp) _
set_option maxRecDepth 100000 in
set_option maxHeartbeats 4000000 in
theorem next_none (c : SD) (w : World) (h : SrcAt w c c.xs.length) :
    Calls Try.prog 31 #[.pointer (some ⟨c.pa, 0, none⟩), .pointer (some ⟨c.pl, 0, none⟩)] w fun e w' => e = .returned (.tuple #[en0.agg, .bool false]) ∧ Below w.heap.size w w' := by
  obtain ⟨x0, x1⟩ := oneN h.at_
  obtain ⟨y0, y1⟩ := oneN h.li
  have l0 := heap_lt h.at_
  have l1 := heap_lt h.li
  have hn := h.ln
  clear h
  generalize c.xs.length = n at *
  go_enter Try.func31, Try.ntmps31
  go_wp2_with fail
  refine bodyPost_ret (v := .tuple #[.agg #[.string ⟨#[]⟩, .int .i64 0, .int .i64 0, .string ⟨#[]⟩], .bool false]) (by simp [results, Try.results31, go_sem]) rfl ?_
  exact ⟨rfl, ((Below.refl _ _).alloc (Nat.le_refl _) _).alloc (by simp) _⟩
theorem int_not_string {w : World} {g o : Nat} {z : Int} {s : ByteArray} {t : TypeId} (h : w.heap[g]? = some (.cells #[.int .i64 z] t (0, 0))) (hc : w.cell? ⟨g, o, none⟩ = some (.string s)) : False := by
  simp [World.cell?, h] at hc
  match o, hc with
  | 0, hc => simp at hc
  | o + 1, hc => simp at hc
theorem LieE.setAt {w w' : World} {a : Option Addr} {xs : List En} {p : Nat} {z : Int} (h : LieE w a xs) (hp : w.heap[p]? = some (.cells #[.int .i64 z] 3 (0, 0))) (ho : OnlyG p w w') : LieE w' a xs := by
  rcases h with rfl | ⟨b, off, rfl, hlt, hc⟩
  · exact .inl rfl
  · by_cases hn : xs = []
    · exact .inl hn
    · have hb : b ≠ p := fun e => by
        subst e
        obtain ⟨h1, -⟩ := hc 0 (List.length_pos_iff.2 hn)
        exact int_not_string hp h1
      have hk : ∀ o, w'.cell? ⟨b, o, none⟩ = w.cell? ⟨b, o, none⟩ := fun o => by simp only [World.cell?, ho.block b hlt hb]
      refine .inr ⟨b, off, rfl, Nat.lt_of_lt_of_le hlt ho.size, fun i hi => ?_⟩
      obtain ⟨h1, h2, h3, h4⟩ := hc i hi
      exact ⟨(hk _).trans h1, (hk _).trans h2, (hk _).trans h3, (hk _).trans h4⟩
theorem OnlyG.alloc {p : Nat} {w w' : World} (h : OnlyG p w w') (o : Obj) : OnlyG p w (w'.alloc o) := h.trans (OnlyG.of ((Below.refl _ _).alloc (Nat.le_refl _) _))
theorem OnlyG.refl (p : Nat) (w : World) : OnlyG p w w := ⟨rfl, rfl, rfl, Nat.le_refl _, fun _ _ _ => rfl⟩
set_option maxRecDepth 100000 in
set_option maxHeartbeats 4000000 in
theorem next_some (c : SD) (i : Nat) (w : World) (h : SrcAt w c i) (hi : i < c.xs.length) :
    Calls Try.prog 31 #[.pointer (some ⟨c.pa, 0, none⟩), .pointer (some ⟨c.pl, 0, none⟩)] w fun e w' => e = .returned (.tuple #[(c.xs.getD i en0).agg, .bool true]) ∧ SrcAt w' c (i + 1) ∧ OnlyG c.pa w w' := by
  have H := hdN h
  obtain ⟨x0, x1⟩ := oneN h.at_
  obtain ⟨y0, y1⟩ := oneN h.li
  have l0 := heap_lt h.at_
  have l1 := heap_lt h.li
  have hne : ¬ c.pl = c.pa := fun e => by
    have h1 := h.li
    rw [e, h.at_] at h1
    injection h1 with h1
    injection h1 with h2 h3
    simp at h2
  have hne' : ¬ c.pa = c.pl := fun e => hne e.symm
  obtain ⟨b, off, ha, hlb, z0, z1, z2, z3⟩ := h.ls.at hi
  have hpb : ¬ b = c.pa := fun e => int_not_string h.at_ (e ▸ z0)
  have hpb' : ¬ c.pa = b := fun e => hpb e.symm
  have hn := h.ln
  rw [ha] at y0
  clear ha h
  have hi0 : (i : Int) < (c.xs.length : Int) := by omega
  have hi1 : ¬ (i : Int) = (c.xs.length : Int) := by omega
  have hi2 : ((i : Int) == (c.xs.length : Int)) = false := by simp; omega
  have hi3 : ¬ i = c.xs.length := by omega
  have hi4 : (i : Int) + 1 - 1 = (i : Int) := by omega
  generalize hx : c.xs.getD i en0 = x at *
  generalize hnn : c.xs.length = n at *
  have HX := hdN hx
  have HNN := hdN hnn
  clear hx hnn
  go_enter Try.func31, Try.ntmps31
  go_wp2_with fail
  refine bodyPost_ret (v := .tuple #[.agg #[.string x.ky, .int .i64 x.sq, .int .i64 x.kd, .string x.vl], .bool true]) (by simp [results, Try.results31, go_sem]) rfl ?_
  have hO : OnlyG c.pa w (w.setCell ⟨c.pa, 0, none⟩ (.int .i64 ((i : Int) + 1))) := OnlyG.set _ _ _
  refine ⟨rfl, SrcAt.below (w := w.setCell ⟨c.pa, 0, none⟩ (.int .i64 ((i : Int) + 1))) ⟨?_, ?_, H.out.ls.setAt H.out.at_ hO, by rw [HNN.out]; exact hi, H.out.ln⟩ ((Below.refl _ _).alloc (Nat.le_refl _) _), hO.alloc _⟩
  · have h := heap_setCell_same w c.pa 0 _ _ (.int .i64 ((i : Int) + 1)) H.out.at_
    simpa using h
  · exact (hO.block _ l1 hne).trans H.out.li
end Go.Proofs.Ytgkhjjnhikbdaaa
