
import Derived.Test.YtibfoimapnnnkacDoorEntF
import Derived.Test.YtibfoimapnnnkacDoorTbF
namespace Go.Proofs.YtibfoimapnnnkacDoor
open Go.RowKit Go.Maps
set_option linter.unusedVariables false
set_option linter.unusedSimpArgs false

set_option maxRecDepth 100000 in
set_option maxHeartbeats 1000000 in
/-- What the index says of a block. -/
theorem putBlockRef_any (B b : Nat) (l : List UInt8) (pg : Nat) (a : Option Addr) (cap : Nat) (xs : List En) (w : World) (h : Bld B b l w) (hx : LieE w a xs) (hxB : ∀ g o, a = some ⟨g, o, none⟩ → g < B) (h0 : 0 < xs.length) (hn : xs.length ≤ 1000) (hk : ∀ e ∈ xs, e.ky.size ≤ 1000) (hpg : pg ≤ 72057594037927935) (hlen : l.length ≤ 70368744100000) (hBw : B ≤ w.heap.size) :
    Calls Tryd.prog 33 #[.pointer (some ⟨b, 0, none⟩), .int .i64 pg, .slice a xs.length cap] w fun e w' => e = .returned (.tuple #[]) ∧ Bld B b (l ++ (vb pg ++ vb xs.length ++ kyB (xs.getD 0 en0).ky ++ kyB (xs.getD (xs.length - 1) en0).ky)) w' ∧ Below B w w' ∧
      (∀ k o, w.heap[k]? = some o → k ≠ b → (∀ c fz, o ≠ .cells c 5 fz) → w'.heap[k]? = some o) := by
  have HV1 : Hid ((vtext (pg : Int)).data.toList = vb pg) := by show _ = _; rw [vtext_in _ (by omega) (by omega)]; simp
  have HV2 : Hid ((vtext (xs.length : Int)).data.toList = vb xs.length) := by show _ = _; rw [vtext_in _ (by omega) (by omega)]; simp
  have hv1 := vtext_size (pg : Int)
  have hv2 := vtext_size (xs.length : Int)
  have hw1 := vb_len pg
  have hw2 := vb_len xs.length
  obtain ⟨g, off, rfl, hgl, c0, -, -, -⟩ := hx.at (i := 0) h0
  obtain ⟨g', off', e, -, d0, -, -, -⟩ := hx.at (i := xs.length - 1) (by omega)
  cases e
  have hgB := hxB g off rfl
  have hz0 : (xs.getD 0 en0).ky.size ≤ 1000 := by
    have : xs.getD 0 en0 = xs[0] := by simp [List.getD, h0]
    rw [this]
    exact hk _ (List.getElem_mem h0)
  have hz1 : (xs.getD (xs.length - 1) en0).ky.size ≤ 1000 := by
    have hlt : xs.length - 1 < xs.length := by omega
    have : xs.getD (xs.length - 1) en0 = xs[xs.length - 1] := by simp [List.getD, hlt]
    rw [this]
    exact hk _ (List.getElem_mem hlt)
  rw [Nat.zero_mul, Nat.add_zero] at c0
  generalize (xs.getD 0 en0).ky = y0 at *
  generalize (xs.getD (xs.length - 1) en0).ky = y1 at *
  have hsub : ((xs.length : Int) - 1).toNat = xs.length - 1 := by omega
  have hws : IntKind.i64.wrap ((xs.length : Int) - 1) = (xs.length : Int) - 1 := by rw [IntKind.wrap_i64]; omega
  have hp0 : (0 : Int) ≤ (xs.length : Int) - 1 := by omega
  have hp1 : (xs.length : Int) - 1 < xs.length := by omega
  have hp2 : (0 : Int) < xs.length := by omega
  have hy0 := vb_len y0.size
  have hdl := dataL y0
  have hbb : b < w.heap.size := h.lt
  have lt : ∀ {k : Nat} {o : Obj} {w : World}, w.heap[k]? = some o → k < w.heap.size := fun {k o w} h => heap_ltB h
  go_enter Tryd.func33, Tryd.ntmps33
  go_wp2_with fail
  refine (implPut_any _ _).mono ?_
  rintro e w1 ⟨rfl, hb1⟩
  have h1 := h.below hb1
  have hs1 := hb1.size
  go_wp2_with fail
  refine (writeString_any B b l _ w1 h1 (by omega) (by omega)).mono ?_
  rintro e w2 ⟨rfl, h2, hb2, hk2⟩
  rw [HV1.out] at h2
  have hs2 := hb2.size
  go_wp2_with fail
  refine (implPut_any _ _).mono ?_
  rintro e w3 ⟨rfl, hb3⟩
  have h3 := h2.below hb3
  have hs3 := hb3.size
  go_wp2_with fail
  refine (writeString_any B b _ _ w3 h3 (by rw [List.length_append]; omega) (by omega)).mono ?_
  rintro e w4 ⟨rfl, h4, hb4, hk4⟩
  rw [HV2.out] at h4
  have hs4 := hb4.size
  have hB4 : Below B w w4 := (((hb1.mono hBw).trans hb2).trans (hb3.mono (by omega))).trans hb4
  have f0 := (hB4.cell (p := ⟨g, _, none⟩) hgB).trans c0
  go_wp2_with fail
  refine (putSized_any B b _ y0 w4 h4 (by omega) (by simp only [List.length_append]; omega) (by omega)).mono ?_
  rintro e w5 ⟨rfl, h5, hb5, hk5⟩
  have hB5 := hB4.trans hb5
  have hs5 := hb5.size
  have f1 := (hB5.cell (p := ⟨g, _, none⟩) hgB).trans d0
  go_wp2_with fail
  refine (putSized_any B b _ y1 w5 h5 (by omega) (by simp only [List.length_append]; omega) (by omega)).mono ?_
  rintro e w6 ⟨rfl, h6, hb6, hk6⟩
  go_wp2_with fail
  go_end0
  refine ⟨rfl, by simpa [kyB] using h6, hB5.trans hb6, fun k o hk hkb ho => ?_⟩
  have e1 := (hb1.block k (lt hk)).trans hk
  have e2 := hk2 k o e1 (by simpa using hkb) ho
  have e3 := (hb3.block k (lt e2)).trans e2
  have e4 := hk4 k o e3 (by simpa using hkb) ho
  exact hk6 k o (hk5 k o e4 hkb ho) hkb ho
end Go.Proofs.YtibfoimapnnnkacDoor
