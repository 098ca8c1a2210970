import Derived.Test.YtlchoaofeaglhadWalkK
import Derived.Maps.AppendAt
namespace Go.Proofs.Ytlchoaofeaglhad
open Go.RowKit Go.Maps
set_option linter.unusedVariables false
set_option linter.unusedSimpArgs false

theorem string_info : (Try.prog.info? 9).map (fun i => (i.zero, i.size, i.bytes)) = some (some (.string ByteArray.empty), 1, 16) := by kernel_rfl

/-- A row of texts that the call owns, as a slice whose texts lie in memory. -/
theorem lie_of_owns {w : World} {B n : Nat} {v : Value} {ns : List ByteArray} (h : w.ownsRow B 9 1 v n (ns.map Value.string)) :
    n = ns.length ∧ ∃ a cap, v = .slice a ns.length cap ∧ LieN w a ns ∧ ∀ b off, a = some ⟨b, off, none⟩ → B ≤ b := by
  obtain ⟨h1, h2⟩ := h
  have hn : n = ns.length := by simpa using h1.symm
  refine ⟨hn, ?_⟩
  subst hn
  rcases h2 with ⟨rfl, h0⟩ | ⟨g, cap, cur, rfl, hg, hb, hl, hm, hsz, htk⟩
  · exact ⟨none, 0, by rw [h0], .inl (by simpa using h0), fun b off e => by cases e⟩
  · refine ⟨some ⟨g, 0, none⟩, cap, rfl, .inr ⟨g, 0, rfl, ?_, fun i hi => ?_⟩, fun b off e => by simp only [Option.some.injEq, Addr.mk.injEq] at e; omega⟩
    · by_cases hlt : g < w.heap.size
      · exact hlt
      · rw [Array.getElem?_eq_none (by omega)] at hb; cases hb
    · have e1 : (cur.toList.take (ns.length * 1))[i]? = (ns.map Value.string)[i]? := by rw [htk]
      rw [List.getElem?_take_of_lt (by omega)] at e1
      simp [World.cell?, hb]
      have e2 : cur[i]? = cur.toList[i]? := by simp
      rw [e2, e1]
      simp [hi]

/-- What beginAt answers. -/
def atCode (fu : Int) (ok : Bool) (o : Option (ByteArray × Int)) : Int := if bgn fu ok ≠ 0 then bgn fu ok else if o.isSome then 0 else 1
def atCont (fu : Int) (ok : Bool) (o : Option (ByteArray × Int)) : ByteArray × Int := if atCode fu ok o = 0 then o.getD (ByteArray.empty, 0) else (ByteArray.empty, 0)

theorem owns_base {w : World} {B n size : Nat} {e : TypeId} {v : Value} {xs : List Value} (h : w.ownsRow B e size v n xs) : ∀ k, v.ownBlock = some k → B ≤ k := by
  intro k hk
  rcases h.2 with ⟨rfl, _⟩ | ⟨g, cap, cur, rfl, hg, _⟩
  · cases hk
  · simp [Value.ownBlock] at hk
    omega

theorem cell_second (w : World) (o : Obj) (x : Value) (t : TypeId) : ∀ j u, [x][j]? = some u → ((w.alloc o).alloc (.cells #[x] t)).cell? ((⟨w.heap.size + 1, 0, none⟩ : Addr).add j) = some u := by
  have := cell_one_new (w.alloc o) x t
  have e : (w.alloc o).heap.size = w.heap.size + 1 := by simp
  rw [e] at this
  exact this

theorem at_end {w w4 : World} {g mb B p : Nat} {l0 l4 q fu : Int} (hbut : But [g] B w w4) (hob : Ob w4 g l0 l4 mb q fu) (hg : g < B) (hB : B ≤ p) (v0 v1 : Value) :
    Ob ((w4.setCell ⟨p, 0, none⟩ v0).setCell ⟨p, 1, none⟩ v1) g l0 l4 mb q fu ∧ But [g] B w ((w4.setCell ⟨p, 0, none⟩ v0).setCell ⟨p, 1, none⟩ v1) := by
  have hb : Below B w4 ((w4.setCell ⟨p, 0, none⟩ v0).setCell ⟨p, 1, none⟩ v1) := ((Below.refl B w4).setCell hB v0).setCell hB v1
  exact ⟨hob.below hb hg, hbut.trans (But.of hb)⟩
theorem at_end' {w w4 : World} {g mb B p : Nat} {l0 l4 q fu : Int} (hbut : But [g] B w w4) (hob : Ob w4 g l0 l4 mb q fu) (hg : g < B) (hB : B ≤ p) (hp : p < w4.heap.size) (v0 v1 : Value) (o : Obj) :
    Ob (((w4.setCell ⟨p, 0, none⟩ v0).setCell ⟨p, 1, none⟩ v1).alloc o) g l0 l4 mb q fu ∧ But [g] B w (((w4.setCell ⟨p, 0, none⟩ v0).setCell ⟨p, 1, none⟩ v1).alloc o) := by
  have hb : Below B w4 (((w4.setCell ⟨p, 0, none⟩ v0).setCell ⟨p, 1, none⟩ v1).alloc o) := (((Below.refl B w4).setCell hB v0).setCell hB v1).alloc (by simp; omega) o
  exact ⟨hob.below hb hg, hbut.trans (But.of hb)⟩

set_option maxRecDepth 100000 in
set_option maxHeartbeats 1000000 in
theorem beginAt_any (g mb c B : Nat) (l0 l4 q fu : Int) (a : Option Addr) (cap : Nat) (ns : List ByteArray) (s : ByteArray) (m : List UInt8 → Option (ByteArray × Int)) (w : World) (h : Ob w g l0 l4 mb q fu) (hd : Dir w mb c m) (hlo : -1 ≤ fu) (hhi : fu ≤ 9223372036854775807)
    (hn : w.ownsRow B 9 1 (.slice a ns.length cap) ns.length (ns.map Value.string)) (hgB : g < B) (hmB : mb < B) (hB : B ≤ w.heap.size) (hf : ∀ s ∈ ns, s.size ≤ maxLen) (hs : s.size ≤ maxLen) (hlen : ns.length ≤ 1) :
    Calls Try.prog 66 #[.pointer (some ⟨g, 0, none⟩), .string s, .slice a ns.length cap] w fun e w' =>
      e = .returned (.tuple #[contV (atCont fu ((ns ++ [s]).all nmOk) (m s.data.toList)).1 (atCont fu ((ns ++ [s]).all nmOk) (m s.data.toList)).2, .int .i64 (atCode fu ((ns ++ [s]).all nmOk) (m s.data.toList))]) ∧
      Ob w' g l0 l4 mb q (fuel' fu) ∧ But [g] B w w' := by
  have hne := h.ne hd
  obtain ⟨i0, hi, hz0, hz1, hz2⟩ := info_parts string_info
  generalize hok : (ns ++ [s]).all nmOk = ok
  generalize hm : m s.data.toList = o
  generalize hcd : atCode fu ok o = cd
  generalize hct : atCont fu ok o = ct
  have HOK : Hid ((ns ++ [s]).all nmOk = ok) := hok
  have HM : Hid (m s.data.toList = o) := hm
  have HC : Hid (atCode fu ok o = cd) := hcd
  have HT : Hid (atCont fu ok o = ct) := hct
  clear hok hm hcd hct
  obtain ⟨ct0, ct1⟩ := ct
  go_enter Try.func66, Try.ntmps66
  go_wp2_with (at_builtin; refine wpList_append_own _ rfl _ _ 104 rfl B 9 i0 (.string ByteArray.empty) 1 16 Try.underlying104 hi hz0 hz1 hz2 rfl (by decide) _ _ _ rfl ((hn.alloc _).alloc _) ⟨w.heap.size + 1, 0, none⟩ 1 1 [.string s] rfl rfl (cell_second _ _ _ _) (fun x hx => by simp at hx; subst hx; rfl) (by unfold maxLen; omega) (by omega) (by simp; omega) ?_; intro v' w3 hown' hgrow3 hnil3)
  replace hgrow3 : ((w.alloc (.cells #[.string ByteArray.empty, .int .i64 0] 96)).alloc (.cells #[.string s] 9)).grownBy w3 (Value.slice a ns.length cap).ownBlock := hgrow3
  have hb3 : Below B w w3 := (((Below.refl B w).alloc hB _).alloc (by simp; omega) _).grown hgrow3 (by simp; omega) (owns_base hn)
  have hp3 : w3.cell? ⟨w.heap.size, 0, none⟩ = some (.string ByteArray.empty) ∧ w3.cell? ⟨w.heap.size, 1, none⟩ = some (.int .i64 0) ∧ w3.frozen? ⟨w.heap.size, 0, none⟩ = false ∧ w3.frozen? ⟨w.heap.size, 1, none⟩ = false := by
    have hbk : w3.heap[w.heap.size]? = ((w.alloc (.cells #[.string ByteArray.empty, .int .i64 0] 96)).alloc (.cells #[.string s] 9)).heap[w.heap.size]? := by
      refine hgrow3.block w.heap.size (by simp; omega) (fun e => ?_)
      rcases hn.2 with ⟨e0, _⟩ | ⟨g', cap', cur, e0, hg', hbb, _⟩
      · rw [e0] at e; cases e
      · rw [e0] at e
        simp [Value.ownBlock] at e
        rw [← e, Array.getElem?_eq_none (Nat.le_refl _)] at hbb
        cases hbb
    refine ⟨(World.cell?_of_block hbk).trans (by simp), (World.cell?_of_block hbk).trans (by simp), (World.frozen?_of_block hbk).trans (by simp), (World.frozen?_of_block hbk).trans (by simp)⟩
  have hsz3 : w.heap.size + 1 < w3.heap.size := by have := hgrow3.size; simp at this; omega
  have hmap : ns.map Value.string ++ [Value.string s] = (ns ++ [s]).map Value.string := by simp
  rw [hmap] at hown'
  obtain ⟨-, a', cap', hv', hlie, hbase⟩ := lie_of_owns hown'
  rw [hv']
  clear hown' hgrow3 hnil3 hmap hv' hn hi hz0 hz1 hz2
  refine (begin_any g mb l0 l4 q fu a' cap' (ns ++ [s]) w3 (h.below hb3 hgB) hlo hhi hlie ?_ (by simp; omega) (fun b off e => by have := hbase b off e; omega)).mono ?_
  · intro x hx
    rcases List.mem_append.1 hx with h' | h'
    · exact hf x h'
    · simp at h'; rw [h']; exact hs
  rintro e w4 ⟨rfl, hob4, hbut4, hsz4⟩
  rw [HOK.out]
  dsimp only
  clear hlie hbase
  have hbut : But [g] B w w4 := (But.of hb3).trans (hbut4.mono (by omega))
  have hd4 : Dir w4 mb c m := hd.block (hbut.block mb hmB (by simpa using hne.symm))
  have hgs : w.heap.size ≠ g := by omega
  have b4 : w4.heap[w.heap.size]? = w3.heap[w.heap.size]? := hbut4.block _ (by omega) (by simpa using hgs)
  obtain ⟨x0, x1, z0, z1⟩ := hp3
  replace x0 := (World.cell?_of_block (a := ⟨w.heap.size, 0, none⟩) b4).trans x0
  replace x1 := (World.cell?_of_block (a := ⟨w.heap.size, 1, none⟩) b4).trans x1
  replace z0 := (World.frozen?_of_block (a := ⟨w.heap.size, 0, none⟩) b4).trans z0
  replace z1 := (World.frozen?_of_block (a := ⟨w.heap.size, 1, none⟩) b4).trans z1
  have hlk := hd4.look hs
  rw [HM.out] at hlk
  obtain ⟨c6, c7, c8, z8⟩ := hob4.cells
  have hsz5 : w.heap.size < w4.heap.size := by omega
  clear b4 hbut4 hb3 h hd hd4 hsz4 hsz3 hf hne hgs hlen HM HOK c7 c8 z8 hlo hhi hmB
  by_cases hb0 : bgn fu ok = 0
  · rw [hb0]
    cases o with
    | none =>
      have e1 : Hid (cd = 1) := HC.out.symm.trans (by simp [atCode, hb0])
      have e2 : Hid ((ct0, ct1) = ((ByteArray.empty, 0) : ByteArray × Int)) := HT.out.symm.trans (by simp [atCont, atCode, hb0])
      clear hb0
      simp only [Option.getD_none, Option.isSome_none] at hlk
      go_wp2
      refine bodyPost_ret (v := .tuple #[contV ⟨#[]⟩ 0, .int .i64 1]) (by simp [results, Try.results66, go_sem, x0, x1, hsz5]) rfl ⟨?_, at_end' hbut hob4 hgB hB hsz5 _ _ _⟩
      have e3 := e2.out
      simp only [Prod.mk.injEq] at e3
      rw [e3.1, e3.2, e1.out]
      rfl
    | some x =>
      have e1 : Hid (cd = 0) := HC.out.symm.trans (by simp [atCode, hb0])
      have e2 : Hid ((ct0, ct1) = x) := HT.out.symm.trans (by simp [atCont, atCode, hb0])
      clear hb0
      simp only [Option.getD_some, Option.isSome_some] at hlk
      go_wp2
      refine bodyPost_ret (v := .tuple #[contV x.1 x.2, .int .i64 0]) (by simp [results, Try.results66, go_sem, x0, x1, hsz5]) rfl ⟨?_, at_end' hbut hob4 hgB hB hsz5 _ _ _⟩
      have e3 := e2.out
      rw [← e3, e1.out]
  · have hbt : (bgn fu ok != 0) = true := by simpa using hb0
    have e1 : Hid (cd = bgn fu ok) := HC.out.symm.trans (by simp [atCode, hb0])
    have e2 : Hid ((ct0, ct1) = ((ByteArray.empty, 0) : ByteArray × Int)) := HT.out.symm.trans (by simp [atCont, atCode, hb0])
    clear hb0
    go_wp2
    refine bodyPost_ret (v := .tuple #[contV ⟨#[]⟩ 0, .int .i64 (bgn fu ok)]) (by simp [results, Try.results66, go_sem, x0, x1]) rfl ⟨?_, at_end hbut hob4 hgB hB _ _⟩
    have e3 := e2.out
    simp only [Prod.mk.injEq] at e3
    rw [e3.1, e3.2, e1.out]
    rfl
end Go.Proofs.Ytlchoaofeaglhad
