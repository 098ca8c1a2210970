
import Derived.Test.YtfbmplecmaebbacDoorRfP
namespace Go.Proofs.YtfbmplecmaebbacDoor
open Go.RowKit Go.Maps Go.Shelf
attribute [local go_sem] Oper.semAt_some
set_option linter.unusedVariables false
set_option linter.unusedSimpArgs false

/-- pagesFrom: the function value that yields the pages. -/
theorem pages_in (F : Fence) (n : Nat) (h5 : F.fn 68) (hro : F.round = none) (s : ByteArray) (p : Nat) (w : World) :
    CallsIn F n Tryd.prog 68 #[.string s, .int .i64 p] w fun e w' => e = .returned (.func (.func 88) #[] #[.pointer (some ⟨w.heap.size, 0, none⟩), .pointer (some ⟨w.heap.size + 1, 0, none⟩)]) ∧ w' = (w.alloc (.cells #[.string s] 9)).alloc (.cells #[.int .i64 p] 3) := by
  refine callsIn_of_wp Tryd.func68 rfl h5 ?_ hro
  simp only [Tryd.ntmps68, List.size_toArray, List.length_cons, List.length_nil, Nat.reduceAdd, Nat.reduceSub, Array.replicate_succ, Array.replicate_zero, List.push_toArray, List.append_toArray, List.nil_append, List.cons_append]
  gi_wp2
  go_ret
  exact ⟨rfl, rfl⟩

theorem pages_stops (F : Fence) (n : Nat) (h6 : F.fn 88) (hro : F.round = none) (hn : 1 ≤ n) (bs bp n₀ : Nat) (s : ByteArray) (p : Nat) (hp : p * 64 + 64 ≤ s.size) (hs : s.size ≤ 1048576) (w : World) (hbs : bs < w.heap.size) (hbp : bp < w.heap.size)
    (hcs : w.cell? ⟨bs, 0, none⟩ = some (.string s)) (hcp : w.cell? ⟨bp, 0, none⟩ = some (.int .i64 p)) :
    SeqStopsK F n Tryd.prog 88 #[.pointer (some ⟨bs, 0, none⟩), .pointer (some ⟨bp, 0, none⟩)] (fun x : Page => #[Value.string x.1]) (Below n₀) (fun ys => ys = pagesL s (p * 64)) (fun pre => pre <+: pagesL s (p * 64)) (pagesL s (p * 64)).length w := fun l J Jx W hW _ _ hY h0 =>
  pages1_in F n h6 hro hn l bs bp n₀ s p hp hs J Jx hY W ((hW.cell (p := ⟨bs, 0, none⟩) hbs).trans hcs) ((hW.cell (p := ⟨bp, 0, none⟩) hbp).trans hcp) h0
end Go.Proofs.YtfbmplecmaebbacDoor
