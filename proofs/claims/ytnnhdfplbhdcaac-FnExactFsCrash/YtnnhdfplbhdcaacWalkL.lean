
import Derived.Test.YtnnhdfplbhdcaacWalkK
import Derived.Maps.AppendAt
namespace Go.Proofs.Ytnnhdfplbhdcaac
open Go.RowKit Go.Maps
set_option linter.unusedVariables false
set_option linter.unusedSimpArgs false

theorem string_info : (Try.prog.info? 9).map (fun i => (i.zero, i.size, i.bytes)) = some (some (.string ByteArray.empty), 1, 16) := by kernel_rfl

/-- A row of texts that the call owns, as a slice whose texts lie in memory. -/
theorem lie_of_owns {w : World} {B n : Nat} {v : Value} {ns : List ByteArray} (h : w.ownsRow B 9 1 v n (ns.map Value.string)) :
    n = ns.length ∧ ∃ a cap, v = .slice a ns.length cap ∧ LieN w a ns ∧ ∀ b off, a = some ⟨b, off, none⟩ → B ≤ b := by
  obtain ⟨h1, h2⟩ := h
  have hn : n = ns.length := by simpa using h1.symm
  refine ⟨hn, ?_⟩
  subst hn
  rcases h2 with ⟨rfl, h0⟩ | ⟨g, cap, cur, rfl, hg, hb, hl, hm, hsz, htk⟩
  · exact ⟨none, 0, by rw [h0], .inl (by simpa using h0), fun b off e => by cases e⟩
  · refine ⟨some ⟨g, 0, none⟩, cap, rfl, .inr ⟨g, 0, rfl, ?_, fun i hi => ?_⟩, fun b off e => by simp only [Option.some.injEq, Addr.mk.injEq] at e; omega⟩
    · by_cases hlt : g < w.heap.size
      · exact hlt
      · rw [Array.getElem?_eq_none (by omega)] at hb; cases hb
    · have e1 : (cur.toList.take (ns.length * 1))[i]? = (ns.map Value.string)[i]? := by rw [htk]
      rw [List.getElem?_take_of_lt (by omega)] at e1
      simp [World.cell?, hb]
      have e2 : cur[i]? = cur.toList[i]? := by simp
      rw [e2, e1]
      simp [hi]

/-- What beginAt answers. -/
def atCode (fu : Int) (ok : Bool) (o : Option (ByteArray × Int)) : Int := if bgn fu ok ≠ 0 then bgn fu ok else if o.isSome then 0 else 1
def atCont (fu : Int) (ok : Bool) (o : Option (ByteArray × Int)) : ByteArray × Int := if atCode fu ok o = 0 then o.getD (ByteArray.empty, 0) else (ByteArray.empty, 0)

theorem owns_base {w : World} {B n size : Nat} {e : TypeId} {v : Value} {xs : List Value} (h : w.ownsRow B e size v n xs) : ∀ k, v.ownBlock = some k → B ≤ k := by
  intro k hk
  rcases h.2 with ⟨rfl, _⟩ | ⟨g, cap, cur, rfl, hg, _⟩
  · cases hk
  · simp [Value.ownBlock] at hk
    omega

theorem cell_second (w : World) (o : Obj) (x : Value) (t : TypeId) : ∀ j u, [x][j]? = some u → ((w.alloc o).alloc (.cells #[x] t)).cell? ((⟨w.heap.size + 1, 0, none⟩ : Addr).add j) = some u := by
  have := cell_one_new (w.alloc o) x t
  have e : (w.alloc o).heap.size = w.heap.size + 1 := by simp
  rw [e] at this
  exact this

theorem at_end {w w4 : World} {g mb B p : Nat} {l0 l4 q fu : Int} (hbut : But [g] B w w4) (hob : Ob w4 g l0 l4 mb q fu) (hg : g < B) (hB : B ≤ p) (v0 v1 : Value) :
    Ob ((w4.setCell ⟨p, 0, none⟩ v0).setCell ⟨p, 1, none⟩ v1) g l0 l4 mb q fu ∧ But [g] B w ((w4.setCell ⟨p, 0, none⟩ v0).setCell ⟨p, 1, none⟩ v1) := by
  have hb : Below B w4 ((w4.setCell ⟨p, 0, none⟩ v0).setCell ⟨p, 1, none⟩ v1) := ((Below.refl B w4).setCell hB v0).setCell hB v1
  exact ⟨hob.below hb hg, hbut.trans (But.of hb)⟩
theorem at_end' {w w4 : World} {g mb B p : Nat} {l0 l4 q fu : Int} (hbut : But [g] B w w4) (hob : Ob w4 g l0 l4 mb q fu) (hg : g < B) (hB : B ≤ p) (hp : p < w4.heap.size) (v0 v1 : Value) (o : Obj) :
    Ob (((w4.setCell ⟨p, 0, none⟩ v0).setCell ⟨p, 1, none⟩ v1).alloc o) g l0 l4 mb q fu ∧ But [g] B w (((w4.setCell ⟨p, 0, none⟩ v0).setCell ⟨p, 1, none⟩ v1).alloc o) := by
  have hb : Below B w4 (((w4.setCell ⟨p, 0, none⟩ v0).setCell ⟨p, 1, none⟩ v1).alloc o) := (((Below.refl B w4).setCell hB v0).setCell hB v1).alloc (by simp; omega) o
  exact ⟨hob.below hb hg, hbut.trans (But.of hb)⟩

end Go.Proofs.Ytnnhdfplbhdcaac
