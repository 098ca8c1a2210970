import Derived.Test.YtgmfjninimebmaaGreatDoorNaE
namespace Go.Proofs.YtgmfjninimebmaaGreatDoor
open Go.RowKit Go.Maps
set_option linter.unusedVariables false
set_option linter.unusedSimpArgs false

/-- The entries with a key. -/
def kf (k : ByteArray) (xs : List En) : List En := xs.filter fun e => decide (e.ky = k)
theorem kf_app (k : ByteArray) (xs ys : List En) : kf k (xs ++ ys) = kf k xs ++ kf k ys := by simp [kf]
theorem srt_kf (k : ByteArray) (xs : List En) : kf k (srt befE xs) = srt befE (kf k xs) := by
  obtain ⟨h1, h2⟩ := srt_ok befE_swo xs
  refine srt_of befE_swo (h1.filter _) (fun c => ?_)
  unfold kf
  rw [List.filter_filter, List.filter_filter]
  have e : ∀ ys : List En, ys.filter (fun a => eqv befE c a && decide (a.ky = k)) = (ys.filter (eqv befE c)).filter (fun e => decide (e.ky = k)) := fun ys => by
    rw [List.filter_filter]
    congr 1
    funext a
    rw [Bool.and_comm]
  rw [e xs, e (srt befE xs), h2 c]
theorem eqv_ky {c x : En} (h : eqv befE c x = true) : x.ky = c.ky := by
  simp only [eqv, Bool.and_eq_true, Bool.not_eq_true'] at h
  rcases Decidable.em (x.ky = c.ky) with e | e
  · exact e
  · obtain ⟨h1, h2⟩ := h
    unfold befE at h1 h2
    rw [if_neg (fun e' => e e'.symm)] at h1
    rw [if_neg e] at h2
    rcases lessB_totN e with h | h
    · rw [h] at h2; cases h2
    · rw [h] at h1; cases h1
/-- Two rows in order with the same entries of each key are the same. -/
theorem kf_uniq {xs ys : List En} (h1 : Srtd befE xs) (h2 : Srtd befE ys) (h : ∀ k, kf k xs = kf k ys) : xs = ys := by
  refine sm_uniq befE_swo h1 h2 (fun c => ?_)
  have e : ∀ zs : List En, zs.filter (eqv befE c) = (kf c.ky zs).filter (eqv befE c) := fun zs => by
    unfold kf
    rw [List.filter_filter]
    refine List.filter_congr (fun a ha => ?_)
    cases hq : eqv befE c a with
    | false => simp
    | true => simp [eqv_ky hq]
  rw [e xs, e ys, h]
theorem ky_between {a b c : En} (h1 : befE b a = false) (h2 : befE c b = false) (hk : a.ky = c.ky) : b.ky = a.ky := by
  rcases Decidable.em (b.ky = a.ky) with e | e
  · exact e
  · unfold befE at h1 h2
    rw [if_neg e] at h1
    rw [if_neg (fun e' => e (e'.symm.trans hk.symm))] at h2
    rcases lessB_totN e with h | h
    · rw [h] at h1; cases h1
    · rw [hk] at h; rw [h] at h2; cases h2
/-- Of each key the first. -/
theorem nwF_kf (k : ByteArray) : ∀ n (S : List En), S.length = n → Srtd befE S → kf k (nwF S) = ((kf k S).head?).toList ∧ (nwF S).Sublist S := by
  intro n
  induction n with
  | zero =>
    intro S hl _
    have : S = [] := List.length_eq_zero_iff.1 hl
    subst this
    exact ⟨rfl, List.Sublist.refl _⟩
  | succ n ih =>
    intro S hl hS
    rcases List.eq_nil_or_concat S with h0 | ⟨T, x, hT⟩
    · rw [h0] at hl; simp at hl
    · have hT' : S = T ++ [x] := by simpa using hT
      subst hT'
      obtain ⟨s1, -, s3⟩ := List.pairwise_append.1 hS
      obtain ⟨i1, i2⟩ := ih T (by simpa using hl) s1
      rw [nwF_snoc, kf_app]
      unfold nwA
      have hx1 : ∀ y ∈ T, befE x y = false := fun y hy => s3 y hy x (by simp)
      have hlast : ∀ y, (nwF T).getLast? = some y → ∃ z, T.getLast? = some z ∧ z.ky = y.ky := fun y hy => by
        have hne : T ≠ [] := fun e => by rw [e] at hy; simp [nwF] at hy
        obtain ⟨y', e1, e2⟩ := nwF_ne T hne
        rw [hy] at e1
        cases e1
        cases hz : T.getLast? with
        | none => rw [hz] at e2; simp at e2
        | some z => rw [hz] at e2; simp at e2; exact ⟨z, rfl, e2⟩
      by_cases hk : (nwF T).getLast?.map En.ky = some x.ky
      · rw [if_pos hk]
        refine ⟨?_, i2.trans (List.sublist_append_left _ _)⟩
        rw [i1]
        by_cases hxk : x.ky = k
        · cases hy : (nwF T).getLast? with
          | none => rw [hy] at hk; simp at hk
          | some y =>
            rw [hy] at hk
            simp at hk
            obtain ⟨z, hz1, hz2⟩ := hlast y hy
            have hzm : z ∈ kf k T := by
              unfold kf
              rw [List.mem_filter]
              exact ⟨List.mem_of_getLast? hz1, by simp [hz2, hk, hxk]⟩
            cases hh : kf k T with
            | nil => rw [hh] at hzm; simp at hzm
            | cons a r => simp
        · have : kf k [x] = [] := by simp [kf, hxk]
          rw [this, List.append_nil]
      · rw [if_neg hk]
        refine ⟨?_, List.Sublist.append i2 (List.Sublist.refl _)⟩
        rw [kf_app, i1]
        by_cases hxk : x.ky = k
        · have hone : kf k [x] = [x] := by simp [kf, hxk]
          rw [hone]
          cases hh : kf k T with
          | nil => simp
          | cons a r =>
            exfalso
            have ham : a ∈ kf k T := by rw [hh]; simp
            obtain ⟨ha1, ha2⟩ := List.mem_filter.1 ham
            simp at ha2
            have hne : T ≠ [] := fun e => by rw [e] at ha1; simp at ha1
            obtain ⟨y, e1, e2⟩ := nwF_ne T hne
            cases hz : T.getLast? with
            | none => rw [hz] at e2; simp at e2
            | some z =>
              rw [hz] at e2
              simp at e2
              have hzm := List.mem_of_getLast? hz
              have hza : befE z a = false := by
                obtain ⟨U, hU⟩ := List.getLast?_eq_some_iff.1 hz
                rw [hU] at s1 ha1
                rcases List.mem_append.1 ha1 with h | h
                · exact (List.pairwise_append.1 s1).2.2 a h z (by simp)
                · have : a = z := by simpa using h
                  rw [this]; exact befE_swo.irr _
              have := ky_between hza (hx1 z hzm) (by rw [ha2, hxk])
              apply hk
              rw [e1]
              simp
              rw [← e2, this, ha2, hxk]
        · have : kf k [x] = [] := by simp [kf, hxk]
          rw [this, List.append_nil, List.append_nil]
theorem newE_kf (k : ByteArray) (xs : List En) : kf k (newE xs) = ((srt befE (kf k xs)).head?).toList ∧ Srtd befE (newE xs) := by
  rw [← nwF_new]
  obtain ⟨h1, -⟩ := srt_ok befE_swo xs
  obtain ⟨e1, e2⟩ := nwF_kf k _ (srt befE xs) rfl h1
  exact ⟨by rw [e1, srt_kf], h1.sublist e2⟩
theorem mrg_head (a b : List En) : (mrg befE a b).head? = match a.head?, b.head? with
    | none, y => y
    | some x, none => some x
    | some x, some y => if befE y x = true then some y else some x := by
  cases a with
  | nil => simp [mrg]
  | cons x a =>
    cases b with
    | nil => simp [mrg]
    | cons y b =>
      unfold mrg
      cases h : befE y x <;> simp [h]
theorem srt_app_head (a b : List En) : (srt befE (a ++ b)).head? = match (srt befE a).head?, (srt befE b).head? with
    | none, y => y
    | some x, none => some x
    | some x, some y => if befE y x = true then some y else some x := by
  rw [← mrg_srt befE_swo, mrg_head]
theorem srt_opt (o : Option En) : (srt befE o.toList).head? = o := by
  cases o with
  | none => rfl
  | some x => simp [srt, insE]
/-- The newest of two parts' newest. -/
theorem newE_two (A B : List En) : newE (newE A ++ newE B) = newE (A ++ B) := by
  refine kf_uniq (newE_kf ByteArray.empty _).2 (newE_kf ByteArray.empty _).2 (fun k => ?_)
  rw [(newE_kf k _).1, (newE_kf k _).1, kf_app, kf_app, srt_app_head, srt_app_head, (newE_kf k A).1, (newE_kf k B).1, srt_opt, srt_opt]
end Go.Proofs.YtgmfjninimebmaaGreatDoor
namespace Go.Proofs.YtgmfjninimebmaaGreatDoor
open Go.RowKit Go.Maps
set_option linter.unusedVariables false
set_option linter.unusedSimpArgs false

set_option maxRecDepth 100000 in
set_option maxHeartbeats 1000000 in
theorem markText_anyE (k0 : Nat) (hk : 1 ≤ k0) (hk2 : k0 ≤ 1000000000) (w : World) :
    Calls Tryz.prog 53 #[.int .i64 k0] w fun e w' => e = .returned (.string (mt k0)) ∧ Below w.heap.size w w' := by
  have hcv := conv1
  have HM : Hid (mt k0 = ⟨#[109]⟩ ++ md k0 k0 ByteArray.empty) := rfl
  generalize mt k0 = res at *
  have hk' : ¬ (k0 : Int) ≤ 0 := by omega
  go_enter Tryz.func53, Tryz.ntmps53
  go_wp2
  go_loopw [0, 3] (fun i o wr => ∃ (k : Nat) (out : ByteArray), k ≤ k0 ∧ i = .int .i64 k ∧ o = .string out ∧ out.size + k ≤ k0 ∧ Hid (md k k out = md k0 k0 ByteArray.empty) ∧ Below w.heap.size w wr) (fun i _ _ => (intOf i).toNat)
  case atStart => exact ⟨k0, ByteArray.empty, Nat.le_refl _, rfl, rfl, by simp, rfl, Below.refl _ _⟩
  case round =>
    obtain ⟨k, out, hk1, rfl, rfl, hsz, HD, hb⟩ := hrel
    have hbs := hb.size
    by_cases hp : 0 < k
    · have hp' : (0 : Int) < (k : Int) := by omega
      have hds := d1_size (48 + (k : Int) % 10)
      have HD' : Hid (md (k / 10) (k / 10) (d1 (48 + (k : Int) % 10) ++ out) = md k0 k0 ByteArray.empty) := (md_step hp out).trans HD.out
      clear HD
      go_wp2
      refine ⟨⟨k / 10, d1 (48 + (k : Int) % 10) ++ out, by omega, by go_num, rfl, ?_, HD', hb.alloc hbs _⟩, by simp [intOf]; omega⟩
      rw [ByteArray.size_append, hds]
      omega
    · obtain rfl : k = 0 := by omega
      have HR : Hid (res = ⟨#[109]⟩ ++ out) := by show _ = _; rw [HM.out, ← HD.out, md_zero]
      clear HD HM
      go_wp2
      go_ret
      exact ⟨by rw [HR.out]; rfl, hb⟩

theorem markText_intE (x : Int) (n : Nat) (hx : x = n) (h1 : 1 ≤ n) (h2 : n ≤ 1000000000) (w : World) :
    Calls Tryz.prog 53 #[.int .i64 x] w fun e w' => e = .returned (.string (mt n)) ∧ Below w.heap.size w w' := by
  subst hx
  exact markText_anyE n h1 h2 w

/-- The marks, as entries, from k0 on. -/
def mkEE (k0 n : Nat) : List En := (List.range n).map fun i => ⟨mt (k0 + 4 * i), ((k0 + 4 * i + 1 : Nat) : Int), ((k0 + 4 * i + 2 : Nat) : Int), mt (k0 + 4 * i + 3)⟩
theorem mkE_lengthE (k0 n : Nat) : (mkEE k0 n).length = n := by simp [mkEE]
theorem mkE_atE (k0 n i : Nat) (h : i < n) : (mkEE k0 n).getD i en0 = ⟨mt (k0 + 4 * i), ((k0 + 4 * i + 1 : Nat) : Int), ((k0 + 4 * i + 2 : Nat) : Int), mt (k0 + 4 * i + 3)⟩ := by simp [mkEE, List.getD, h]

set_option maxRecDepth 100000 in
set_option maxHeartbeats 4000000 in
theorem markEntryS_rowE (g cap n k0 : Nat) (w : World) (ys : List En) (hn2 : n ≤ 1100000) (h01 : 1 ≤ k0) (hk0 : k0 ≤ 900000000) (hp : RowE w g n ys 0) :
    Calls Tryz.prog 27 #[.slice (some ⟨g, 0, none⟩) n cap, .int .i64 k0] w fun e w' => e = .returned (.int .i64 (k0 + 4 * n : Nat)) ∧ RowE w' g n (mkEE k0 n) n ∧ OnlyG g w w' := by
  have hgl := hp.lt
  go_enter Tryz.func27, Tryz.ntmps27
  go_wp2_with fail
  go_loopw [1, 5] (fun kk i wr => ∃ j : Nat, j ≤ n ∧ i = .int .i64 j ∧ kk = .int .i64 (k0 + 4 * j : Nat) ∧ RowE wr g n (mkEE k0 n) j ∧ OnlyG g w wr) (fun _ i _ => n - (intOf i).toNat)
  case atStart => exact ⟨0, Nat.zero_le _, rfl, by simp, hp.zero _, OnlyG.refl _ _⟩
  case round =>
    obtain ⟨j, hj, rfl, rfl, hpj, hb⟩ := hrel
    by_cases hlt : j < n
    · obtain ⟨cs, h1, h2, h3⟩ := hpj
      have hfj := mkE_atE k0 n j hlt
      go_wp2_with fail
      refine (markText_intE _ (k0 + 4 * j) (by omega) (by omega) (by omega) _).mono ?_
      rintro e w1 ⟨rfl, hb1⟩
      have hgr : g < wr.heap.size := Nat.lt_of_lt_of_le hgl hb.size
      have e1 := (hb1.block g hgr).trans h1
      obtain ⟨v0, c0⟩ := row_cell (o := j * 4) e1 (by omega)
      obtain ⟨v1, c1⟩ := row_cell (o := j * 4 + 1) e1 (by omega)
      obtain ⟨v2, c2⟩ := row_cell (o := j * 4 + 2) e1 (by omega)
      have z0 : w1.frozen? ⟨g, j * 4, none⟩ = false := by simp [World.frozen?, e1]
      have z1 : w1.frozen? ⟨g, j * 4 + 1, none⟩ = false := by simp [World.frozen?, e1]
      have z2 : w1.frozen? ⟨g, j * 4 + 2, none⟩ = false := by simp [World.frozen?, e1]
      have e2 := heap_setCell_same w1 g (j * 4) _ _ (.string (mt (k0 + 4 * j))) e1
      have e3 := heap_setCell_same _ g (j * 4 + 1) _ _ (.int .i64 ((k0 + 4 * j + 1 : Nat) : Int)) e2
      have e4 := heap_setCell_same _ g (j * 4 + 2) _ _ (.int .i64 ((k0 + 4 * j + 2 : Nat) : Int)) e3
      have ho1 : OnlyG g w (((w1.setCell ⟨g, j * 4, none⟩ (.string (mt (k0 + 4 * j)))).setCell ⟨g, j * 4 + 1, none⟩ (.int .i64 ((k0 + 4 * j + 1 : Nat) : Int))).setCell ⟨g, j * 4 + 2, none⟩ (.int .i64 ((k0 + 4 * j + 2 : Nat) : Int))) := (((hb.trans (OnlyG.of hb1)).trans (OnlyG.set _ _ _)).trans (OnlyG.set _ _ _)).trans (OnlyG.set _ _ _)
      have hg2 : g < (((w1.setCell ⟨g, j * 4, none⟩ (.string (mt (k0 + 4 * j)))).setCell ⟨g, j * 4 + 1, none⟩ (.int .i64 ((k0 + 4 * j + 1 : Nat) : Int))).setCell ⟨g, j * 4 + 2, none⟩ (.int .i64 ((k0 + 4 * j + 2 : Nat) : Int))).heap.size := heap_lt e4
      have q1 : ((k0 + 4 * j + 1 : Nat) : Int) = (k0 : Int) + 4 * (j : Int) + 1 := by omega
      have q2 : ((k0 + 4 * j + 2 : Nat) : Int) = (k0 : Int) + 4 * (j : Int) + 1 + 1 := by omega
      rw [q1, q2] at e4 ho1 hg2
      rw [q1, q2] at hfj
      clear hb1 e1 e2 e3 q1 q2
      go_wp2_with fail
      refine (markText_intE _ (k0 + 4 * j + 3) (by omega) (by omega) (by omega) _).mono ?_
      rintro e w2 ⟨rfl, hb2⟩
      have e5 := (hb2.block g hg2).trans e4
      obtain ⟨v3, c3⟩ := row_cell (o := j * 4 + 3) e5 (by simp; omega)
      have z3 : w2.frozen? ⟨g, j * 4 + 3, none⟩ = false := by simp [World.frozen?, e5]
      have e6 := heap_setCell_same w2 g (j * 4 + 3) _ _ (.string (mt (k0 + 4 * j + 3))) e5
      have hpart := rowE_step (f := ⟨mt (k0 + 4 * j), (k0 : Int) + 4 * (j : Int) + 1, (k0 : Int) + 4 * (j : Int) + 1 + 1, mt (k0 + 4 * j + 3)⟩) e6 h2 h3 (by omega) hfj
      have ho2 : OnlyG g w (w2.setCell ⟨g, j * 4 + 3, none⟩ (.string (mt (k0 + 4 * j + 3)))) := (ho1.trans (OnlyG.of hb2)).trans (OnlyG.set _ _ _)
      clear e4 e5 e6 h1 h2 h3 ho1 hb2 hfj c0 z0 c1 z1 c2 z2
      go_wp2_with fail
      exact ⟨⟨j + 1, by omega, by go_num, by go_num, hpart, ho2⟩, by simp [intOf]; omega⟩
    · obtain rfl : j = n := by omega
      go_wp2_with fail
      go_ret
      exact ⟨rfl, hpj, hb⟩

set_option maxRecDepth 100000 in
set_option maxHeartbeats 4000000 in
theorem heldEntryS_rowE (a : Option Addr) (cap n k0 : Nat) (w : World) (hn2 : n ≤ 1100000) (h01 : 1 ≤ k0) (hk0 : k0 ≤ 900000000) (hx : LieE w a (mkEE k0 n)) :
    Calls Tryz.prog 28 #[.slice a n cap, .int .i64 k0] w fun e w' => e = .returned (.int .i64 (k0 + 4 * n : Nat)) ∧ Below w.heap.size w w' := by
  go_enter Tryz.func28, Tryz.ntmps28
  go_wp2_with fail
  go_loopw [1, 5] (fun kk i wr => ∃ j : Nat, j ≤ n ∧ i = .int .i64 j ∧ kk = .int .i64 (k0 + 4 * j : Nat) ∧ Below w.heap.size w wr) (fun _ i _ => n - (intOf i).toNat)
  case atStart => exact ⟨0, Nat.zero_le _, rfl, by simp, Below.refl _ _⟩
  case round =>
    obtain ⟨j, hj, rfl, rfl, hb⟩ := hrel
    by_cases hlt : j < n
    · obtain ⟨b, off, rfl, hbl, c0, c1, c2, c3⟩ := (hx.below hb).at (i := j) (by rw [mkE_lengthE]; exact hlt)
      rw [mkE_atE k0 n j hlt] at c0 c1 c2 c3
      have hij : (j : Int) < (n : Int) := by omega
      simp only at c0 c1 c2 c3
      have q1 : ((k0 + 4 * j + 1 : Nat) : Int) = (k0 : Int) + 4 * (j : Int) + 1 := by omega
      have q2 : ((k0 + 4 * j + 2 : Nat) : Int) = (k0 : Int) + 4 * (j : Int) + 1 + 1 := by omega
      rw [q1] at c1
      rw [q2] at c2
      clear q1 q2
      go_wp2_with fail
      go_region_held3 (fun w' => w'.cell? ⟨b, off + j * 4, none⟩ = some (.string (mt (k0 + 4 * j)))) (simp [go_sem, *])
        (first | (go_at_call 53; refine (markText_intE _ (k0 + 4 * j) (by omega) (by omega) (by omega) _).mono ?_; rintro e w1 ⟨rfl, hb1⟩; have x0 := (hb1.cell (p := ⟨b, _, none⟩) hbl).trans c0; have x1 := (hb1.cell (p := ⟨b, _, none⟩) hbl).trans c1; have x2 := (hb1.cell (p := ⟨b, _, none⟩) hbl).trans c2; have x3 := (hb1.cell (p := ⟨b, _, none⟩) hbl).trans c3; have hbw := hb.drew.trans (hb1.mono hb.drew.size); have hbl1 := Nat.lt_of_lt_of_le hbl hb1.size; clear hb1))
      clear c0 c1 c2 c3 hbl hb
      go_wp2_with fail
      go_region_held3 (fun w' => w'.cell? ⟨b, off + j * 4 + 3, none⟩ = some (.string (mt (k0 + 4 * j + 3)))) (simp [go_sem, *])
        (first | (go_at_call 53; refine (markText_intE _ (k0 + 4 * j + 3) (by omega) (by omega) (by omega) _).mono ?_; rintro e w2 ⟨rfl, hb2⟩; have y3 := (hb2.cell (p := ⟨b, _, none⟩) hbl1).trans x3; have hbw2 := hbw.drew.trans (hb2.mono hbw.drew.size); clear hb2))
      go_wp2_with fail
      exact ⟨⟨j + 1, by omega, by go_num, by go_num, hbw2⟩, by simp [intOf]; omega⟩
    · obtain rfl : j = n := by omega
      go_wp2_with fail
      go_ret
      exact ⟨rfl, hb⟩

set_option maxRecDepth 100000 in
set_option maxHeartbeats 1000000 in
theorem markEntryS_emptyE (a : Option Addr) (cap k0 : Nat) (w : World) :
    Calls Tryz.prog 27 #[.slice a 0 cap, .int .i64 k0] w fun e w' => e = .returned (.int .i64 k0) ∧ w' = w := by
  go_enter Tryz.func27, Tryz.ntmps27
  go_wp2_with fail
  refine wp_loop_rounds 1 ?_
  rw [rounds_succ]
  go_wp2_with fail
  go_ret
  exact ⟨rfl, rfl⟩
end Go.Proofs.YtgmfjninimebmaaGreatDoor
namespace Go.Proofs.YtgmfjninimebmaaGreatDoor
open Go.RowKit
set_option linter.unusedVariables false
set_option linter.unusedSimpArgs false

theorem ofNat_at (n : Nat) (h : n < 256) : (UInt8.ofNat n).toNat = n := UInt8.toNat_ofNat_of_lt' h
/-- What was written is read back. -/
theorem gvf_vbf : ∀ (f m i n0 : Nat) (rest : List UInt8), m < 128 ^ (f + 1) → (0 < i → 0 < m) → gvf (f + 1) (vbf f m ++ rest) i n0 = some (n0 + m * 128 ^ i, i + (vbf f m).length) := by
  intro f
  induction f with
  | zero =>
    intro m i n0 rest hm hi
    have hm' : m < 128 := by simpa using hm
    have e := ofNat_at m (by omega)
    simp only [vbf, List.singleton_append, gvf, e]
    rw [if_pos hm', if_neg (by rintro ⟨h1, h2⟩; have := hi h2; omega), Nat.mod_eq_of_lt hm']
    rfl
  | succ f ih =>
    intro m i n0 rest hm hi
    by_cases h : m < 128
    · have e := ofNat_at m (by omega)
      rw [vbf_lt h]
      simp only [List.singleton_append, gvf, e]
      rw [if_pos h, if_neg (by rintro ⟨h1, h2⟩; have := hi h2; omega), Nat.mod_eq_of_lt h]
      rfl
    · have e := ofNat_at (m % 128 + 128) (by omega)
      rw [vbf_ge h]
      have e2 : (m % 128 + 128) % 128 = m % 128 := by omega
      simp only [List.cons_append, gvf, e, e2]
      rw [if_neg (by omega), ih (m / 128) (i + 1) _ rest (by rw [Nat.pow_succ] at hm; omega) (fun _ => by omega)]
      simp only [List.length_cons, Option.some.injEq, Prod.mk.injEq]
      refine ⟨?_, by omega⟩
      rw [Nat.pow_succ, Nat.add_assoc]
      congr 1
      have : m * 128 ^ i = (m % 128 + 128 * (m / 128)) * 128 ^ i := by rw [Nat.mod_add_div]
      rw [this, Nat.add_mul]
      congr 1
      rw [Nat.mul_comm (128 ^ i) 128, ← Nat.mul_assoc, Nat.mul_comm (m / 128) 128]
theorem gv_at {s : ByteArray} {A R : List UInt8} {n : Nat} (hs : s.data.toList = A ++ (vb n ++ R)) (hn : n ≤ 72057594037927935) : gv s (A.length : Nat) = some (n, (vb n).length) := by
  have hl : s.size = A.length + ((vb n).length + R.length) := by rw [← dataL, hs]; simp
  have hp := vbf_pos 7 n
  unfold gv
  rw [if_pos ⟨by omega, by show (A.length : Int) < s.size; have : 0 < (vb n).length := hp; omega⟩, Int.toNat_natCast, hs, List.drop_left]
  have := gvf_vbf 7 n 0 0 R (by have : (128 : Nat) ^ 8 = 72057594037927936 := by decide
                                omega) (fun h => by omega)
  rw [this]
  simp
theorem bytes_ext {a b : ByteArray} (h : a.data.toList = b.data.toList) : a = b := by
  cases a; cases b
  simp at h
  rw [h]
theorem bytes_inj {a : ByteArray} {l : List UInt8} (h : (⟨l.toArray⟩ : ByteArray) = a) : a.data.toList = l := by
  rw [← h]
/-- A text that is one frame whole. -/
theorem rf_back {d : ByteArray} {k n : Nat} {l : List UInt8} (h : rf d 0 = some (k, l, n)) (hn : n * 64 = d.size) : d.data.toList = frB k l ∧ k < 256 ∧ kindOk (k : Int) = true ∧ l.length ≤ 1048576 := by
  unfold rf at h
  split at h
  · rw [show (0 : Int).toNat = 0 from rfl] at h
    unfold rfAt at h
    split at h
    · rename_i hd
      obtain ⟨h1, h2, h3, h4, h5, h6⟩ := hd
      simp only [Option.some.injEq, Prod.mk.injEq] at h
      obtain ⟨rfl, rfl, rfl⟩ := h
      have hb := (d.data.toList.getD (0 * 64) 0).toNat_lt
      have hofn : UInt8.ofNat (d.data.toList.getD (0 * 64) 0).toNat = d.data.toList.getD (0 * 64) 0 := by simp
      have := (frame_iff (s := d.data.toList) (F := 0 * 64) (n := word d.data.toList (0 * 64) 0) (k := (d.data.toList.getD (0 * 64) 0).toNat) hofn.symm rfl ((marks_iff _ _ _).1 h4) h3 (crc_lt _)).2 ⟨by rw [hofn]; exact h5, (zeros_iff _ _ _ _).1 h6⟩
      rw [this, Nat.zero_mul, List.drop_zero, List.take_of_length_le (by rw [dataL]; simp only [Nat.zero_mul] at hn ⊢; omega)]
      exact ⟨rfl, hb, by rw [Nat.zero_mul] at h1; exact h1, by rw [pay_len]; rw [Nat.zero_mul] at h2; exact h2⟩
    · cases h
  · cases h
/-- The number of a mark. -/
def mkN (d : ByteArray) : Option Nat :=
  match rf d 0 with
  | none => none
  | some (k, l, n) =>
    match gv ⟨l.toArray⟩ 0 with
    | none => none
    | some (m, c) => if k = 82 ∧ n * 64 = d.size ∧ c = l.length then some m else none
theorem gv_text {l : List UInt8} {m c : Nat} (hg : gv ⟨l.toArray⟩ 0 = some (m, c)) : l.take c = vb m ∧ c ≤ l.length ∧ m ≤ 72057594037927935 ∧ c = (vb m).length := by
  obtain ⟨h1, h2, h3, h4⟩ := gv_some (A := 0) hg
  simp only [Nat.zero_add, List.take_zero, List.nil_append] at h1 h2
  have e : (⟨l.toArray⟩ : ByteArray).size = l.length := by simp [ByteArray.size]
  rw [e] at h2
  refine ⟨h1, h2, h3, ?_⟩
  rw [← h1, List.length_take]
  omega
theorem mk_text {d : ByteArray} {k n m c : Nat} {l : List UInt8} (h : rf d 0 = some (k, l, n)) (hg : gv ⟨l.toArray⟩ 0 = some (m, c)) : frT 82 (vtext m) = d ↔ (k = 82 ∧ n * 64 = d.size ∧ c = l.length) := by
  obtain ⟨g1, g2, g3, g4⟩ := gv_text hg
  have hv : vtext (m : Int) = ⟨(vb m).toArray⟩ := by rw [vtext_in m (by omega) (by omega), Int.toNat_natCast]
  have hl8 : (vb m).length ≤ 8 := vbf_length_le 7 m
  have hf : frT 82 (vtext (m : Int)) = ⟨(frB 82 (vb m)).toArray⟩ := by
    rw [hv, frT_in (by decide) (by show (vb m).length ≤ 1048576; omega)]
    rfl
  rw [hf]
  constructor
  · intro he
    have hd := bytes_inj he
    have hr := rf_stands (s := d) (A := []) (T := []) (P := vb m) (k := 82) (p := 0) (by simpa using hd) rfl (by decide) (by omega) (by omega)
    rw [show ((0 : Nat) : Int) = 0 from rfl, h] at hr
    simp only [Option.some.injEq, Prod.mk.injEq] at hr
    obtain ⟨rfl, rfl, rfl⟩ := hr
    refine ⟨rfl, ?_, g4⟩
    rw [← dataL, hd, frB_len]
    omega
  · rintro ⟨rfl, hn, hc⟩
    obtain ⟨hb, -, -, -⟩ := rf_back h hn
    have hl : l = vb m := by rw [← g1, hc, List.take_length]
    apply bytes_ext
    rw [hb, hl]
theorem mk_some {d : ByteArray} {k n m c : Nat} {l : List UInt8} (h : rf d 0 = some (k, l, n)) (hg : gv ⟨l.toArray⟩ 0 = some (m, c)) : mkN d = if frT 82 (vtext m) = d then some m else none := by
  unfold mkN
  rw [h]
  simp only [hg]
  by_cases hc : k = 82 ∧ n * 64 = d.size ∧ c = l.length
  · rw [if_pos hc, if_pos ((mk_text h hg).2 hc)]
  · rw [if_neg hc, if_neg (fun he => hc ((mk_text h hg).1 he))]
theorem mk_le {d : ByteArray} {m : Nat} (h : mkN d = some m) : m ≤ 72057594037927935 := by
  unfold mkN at h
  split at h
  · cases h
  · split at h
    · cases h
    · rename_i hg
      split at h
      · cases h; exact (gv_text hg).2.2.1
      · cases h
theorem mk_empty {d : ByteArray} (h : d.size = 0) : mkN d = none := by
  unfold mkN
  have : rf d 0 = none := by unfold rf; rw [if_neg (by omega)]
  rw [this]
theorem rtO_empty {d : ByteArray} (h : d.size = 0) : rtO d = none := rtO_none (by rintro ⟨-, h2, -⟩; exact h2 h)

/-- The greatest Seq. -/
def lastE (xs : List En) : Int := xs.foldl (fun a e => max a e.sq) 0
theorem fold_up (xs : List En) : ∀ a : Int, a ≤ xs.foldl (fun a e => max a e.sq) a ∧ ∀ e ∈ xs, e.sq ≤ xs.foldl (fun a e => max a e.sq) a := by
  induction xs with
  | nil => intro a; simp
  | cons x r ih =>
    intro a
    rw [List.foldl_cons]
    obtain ⟨h1, h2⟩ := ih (max a x.sq)
    refine ⟨by omega, fun e he => ?_⟩
    rcases List.mem_cons.1 he with rfl | h
    · omega
    · exact h2 e h
theorem fold_le (xs : List En) {M : Int} : ∀ a : Int, a ≤ M → (∀ e ∈ xs, e.sq ≤ M) → xs.foldl (fun a e => max a e.sq) a ≤ M := by
  induction xs with
  | nil => intro a h _; exact h
  | cons x r ih =>
    intro a h hx
    rw [List.foldl_cons]
    exact ih _ (by have := hx x (List.mem_cons_self ..); omega) fun e he => hx e (List.mem_cons_of_mem _ he)
theorem lastE_le {xs : List En} {M : Int} (h0 : 0 ≤ M) (h : ∀ e ∈ xs, e.sq ≤ M) : lastE xs ≤ M := fold_le xs 0 h0 h
theorem lastE_ge {xs : List En} {e : En} (h : e ∈ xs) : e.sq ≤ lastE xs := (fold_up xs 0).2 e h
theorem lastE_nn (xs : List En) : 0 ≤ lastE xs := (fold_up xs 0).1
theorem srt_memV {x : En} {xs : List En} : x ∈ srt befE xs ↔ x ∈ xs :=
  ⟨fun h => Sm.mem befE_swo (srt_ok befE_swo xs).2.symm h, fun h => Sm.mem befE_swo (srt_ok befE_swo xs).2 h⟩
theorem newE_mem {x : En} {xs : List En} (h : x ∈ newE xs) : x ∈ xs := by
  have hk : x ∈ kf x.ky (newE xs) := List.mem_filter.2 ⟨h, by simp⟩
  rw [(newE_kf x.ky xs).1] at hk
  have := List.mem_of_mem_head? (l := srt befE (kf x.ky xs)) (a := x) (by simpa using hk)
  exact (List.mem_filter.1 (srt_memV.1 this)).1
/-- Of an entry's key the newest stands there, and no older one. -/
theorem newE_top {x : En} {xs : List En} (h : x ∈ xs) : ∃ y ∈ newE xs, x.sq ≤ y.sq := by
  have hx : x ∈ srt befE (kf x.ky xs) := srt_memV.2 (List.mem_filter.2 ⟨h, by simp⟩)
  have hs := (srt_ok befE_swo (kf x.ky xs)).1
  have hkf := (newE_kf x.ky xs).1
  cases hS : srt befE (kf x.ky xs) with
  | nil => rw [hS] at hx; cases hx
  | cons y r =>
    rw [hS] at hx hs hkf
    simp only [List.head?_cons, Option.toList_some] at hkf
    have hy : y ∈ kf x.ky (newE xs) := by rw [hkf]; exact List.mem_singleton.2 rfl
    obtain ⟨hy1, hy2⟩ := List.mem_filter.1 hy
    refine ⟨y, hy1, ?_⟩
    rcases List.mem_cons.1 hx with rfl | hr
    · exact Int.le_refl _
    · have hb := (List.pairwise_cons.1 hs).1 x hr
      have hky : y.ky = x.ky := by simpa using hy2
      unfold befE at hb
      rw [if_pos hky.symm] at hb
      have := of_decide_eq_false hb
      omega
theorem last_new (xs : List En) : lastE (newE xs) = lastE xs := by
  apply Int.le_antisymm
  · exact lastE_le (lastE_nn xs) fun e he => lastE_ge (newE_mem he)
  · refine lastE_le (lastE_nn _) fun e he => ?_
    obtain ⟨y, h1, h2⟩ := newE_top he
    have := lastE_ge h1
    omega
end Go.Proofs.YtgmfjninimebmaaGreatDoor
namespace Go.Proofs.YtgmfjninimebmaaGreatDoor
open Go.RowKit
set_option linter.unusedVariables false
set_option linter.unusedSimpArgs false

/-- The lists of the frames of kind k; of a file; of all files outside. -/
def lsK (s : ByteArray) (k : Int) : List (List En) := (svL s k).filterMap dec
def lsF (s : ByteArray) : List (List En) := lsK s 66 ++ lsK s 87
def rpB : List UInt8 := [114, 101, 112, 97, 105, 114, 46]
def ltB : List UInt8 := [108, 111, 115, 116, 47]
def ownN (nm : ByteArray) : Bool := rpB.isPrefixOf nm.data.toList || ltB.isPrefixOf nm.data.toList
def lsA (xs : List Fl) : List (List En) := xs.flatMap fun f => if ownN f.nm = true then [] else lsF f.dt
theorem flat_ge (f : En → List UInt8) (h : ∀ e, 1 ≤ (f e).length) (xs : List En) : xs.length ≤ (xs.flatMap f).length := by
  induction xs with
  | nil => simp
  | cons x r ih =>
    rw [List.flatMap_cons, List.length_append, List.length_cons]
    have := h x
    omega
theorem eb_pos (e : En) : 1 ≤ (eb e).length := by
  unfold eb ebA
  simp only [List.length_append, List.length_singleton]
  omega
/-- A text of n entries has more than n bytes. -/
theorem dec_size {s : ByteArray} {xs : List En} (h : dec s = some xs) : xs.length + 1 ≤ s.size := by
  unfold dec at h
  cases hg : gv s 0 with
  | none => rw [hg] at h; cases h
  | some q =>
    obtain ⟨n, c⟩ := q
    rw [hg] at h
    obtain ⟨g1, g2, g3, g4⟩ := gv_some (A := 0) hg
    simp only at h
    split at h
    · cases hp : ps s n c with
      | none => rw [hp] at h; cases h
      | some r =>
        obtain ⟨ys, E⟩ := r
        rw [hp] at h
        simp only at h
        split at h
        · cases h
          obtain ⟨p1, p2, p3, p4, p5⟩ := ps_some (by omega) hp
          have := congrArg List.length p1
          rw [List.length_append, List.length_take, List.length_take, dataL] at this
          have := flat_ge eb eb_pos xs
          omega
        · cases h
    · cases h
theorem rf_long {s : ByteArray} {p k n : Nat} {l : List UInt8} (h : rf s p = some (k, l, n)) : p * 64 + l.length ≤ n * 64 := by
  unfold rf at h
  split at h
  · rw [Int.toNat_natCast] at h
    unfold rfAt at h
    split at h
    · simp only [Option.some.injEq, Prod.mk.injEq] at h
      obtain ⟨-, rfl, rfl⟩ := h
      rw [pay_len]
      have := pages_ge (8 + word s.data.toList (p * 64) 0)
      omega
    · cases h
  · cases h
/-- The bytes of payloads. -/
def szF (L : List Fr) : Nat := (L.map fun f => (rfB f).size).sum
theorem rfB_size (k n : Nat) (l : List UInt8) : (rfB (some (k, l, n))).size = l.length := by
  simp [rfB, ByteArray.size]
theorem frs_sum (s : ByteArray) : ∀ d p, s.size - p ≤ d → szF (frs s p) + p * 64 ≤ max s.size (p * 64) := by
  intro d
  induction d with
  | zero =>
    intro p hp
    by_cases h : p * 64 < s.size
    · omega
    · rw [frs_end h]; simp only [szF, List.map_nil, List.sum_nil]; omega
  | succ d ih =>
    intro p hp
    by_cases h : p * 64 < s.size
    · have hg := nx_gt s p
      have hi := ih (nx s p) (by omega)
      rw [frs_more h]
      have hz : szF (rf s p :: frs s (nx s p)) = (rfB (rf s p)).size + szF (frs s (nx s p)) := by simp only [szF, List.map_cons, List.sum_cons]
      rw [hz]
      cases hr : rf s p with
      | none =>
        have h0 : (rfB (none : Fr)).size = 0 := rfl
        have hn : nx s p = p + 1 := nx_none (by rw [hr]; rfl)
        rw [h0]
        by_cases h2 : (p + 1) * 64 < s.size
        · rw [hn] at hi ⊢; omega
        · rw [hn, frs_end h2]; simp only [szF, List.map_nil, List.sum_nil]; omega
      | some q =>
        obtain ⟨k, l, n⟩ := q
        have h1 := rf_long hr
        have h2 := rf_next hr
        have hn : nx s p = n := by rw [(nx_some (by rw [hr]; rfl)).1, hr]; rfl
        rw [rfB_size]
        rw [hn] at hi ⊢
        omega
    · rw [frs_end h]; simp only [szF, List.map_nil, List.sum_nil]; omega
theorem frs_all (s : ByteArray) : szF (frs s 0) ≤ s.size := by
  have := frs_sum s s.size 0 (by omega)
  omega
/-- How many lists and entries. -/
def cntL (L : List (List En)) : Nat := L.length + L.flatten.length
theorem cntL_app (a b : List (List En)) : cntL (a ++ b) = cntL a + cntL b := by
  unfold cntL
  rw [List.length_append, List.flatten_append, List.length_append]
  omega
theorem map_cnt (ps : List ByteArray) : cntL (ps.filterMap dec) ≤ (ps.map ByteArray.size).sum := by
  induction ps with
  | nil => simp [cntL]
  | cons p r ih =>
    rw [List.map_cons, List.sum_cons]
    cases hd : dec p with
    | none => rw [List.filterMap_cons_none hd]; omega
    | some xs =>
      rw [List.filterMap_cons_some hd, show xs :: List.filterMap dec r = [xs] ++ List.filterMap dec r from rfl, cntL_app]
      have h1 := dec_size hd
      have : cntL [xs] = 1 + xs.length := by simp [cntL]
      omega
theorem two_kinds (L : List Fr) : (((L.filter (gd 66)).map rfB).map ByteArray.size).sum + (((L.filter (gd 87)).map rfB).map ByteArray.size).sum ≤ szF L := by
  induction L with
  | nil => simp [szF]
  | cons f r ih =>
    have hz : szF (f :: r) = (rfB f).size + szF r := by simp only [szF, List.map_cons, List.sum_cons]
    rw [hz]
    by_cases h1 : gd 66 f = true
    · have h2 : ¬ gd 87 f = true := by
        intro h2
        unfold gd at h1 h2
        simp only [Bool.and_eq_true, beq_iff_eq] at h1 h2
        omega
      rw [List.filter_cons_of_pos h1, List.filter_cons_of_neg h2, List.map_cons, List.map_cons, List.sum_cons]
      omega
    · rw [List.filter_cons_of_neg h1]
      by_cases h2 : gd 87 f = true
      · rw [List.filter_cons_of_pos h2, List.map_cons, List.map_cons, List.sum_cons]
        omega
      · rw [List.filter_cons_of_neg h2]
        omega
theorem lsF_cnt (s : ByteArray) : cntL (lsF s) ≤ s.size := by
  unfold lsF lsK svL
  rw [cntL_app]
  have h1 := map_cnt (((frs s 0).filter (gd 66)).map rfB)
  have h2 := map_cnt (((frs s 0).filter (gd 87)).map rfB)
  have h3 := two_kinds (frs s 0)
  have h4 := frs_all s
  omega
theorem lsK_ok {s : ByteArray} {k : Int} {es : List En} (h : es ∈ lsK s k) : es.all entOk = true := by
  obtain ⟨p, -, hp⟩ := List.mem_filterMap.1 h
  exact dec_all hp
theorem lsA_ok {xs : List Fl} {es : List En} (h : es ∈ lsA xs) : es.all entOk = true := by
  obtain ⟨f, -, hf⟩ := List.mem_flatMap.1 h
  split at hf
  · cases hf
  · rcases List.mem_append.1 hf with h | h <;> exact lsK_ok h
theorem lsA_cnt (xs : List Fl) : cntL (lsA xs) ≤ datas xs := by
  induction xs with
  | nil => simp [lsA, cntL, datas]
  | cons f r ih =>
    have e : lsA (f :: r) = (if ownN f.nm = true then [] else lsF f.dt) ++ lsA r := by simp [lsA]
    have e2 : datas (f :: r) = f.dt.size + datas r := by simp [datas]
    rw [e, e2, cntL_app]
    have := lsF_cnt f.dt
    split
    · have : cntL [] = 0 := rfl
      omega
    · omega
theorem lsA_take (xs : List Fl) (i : Nat) (h : i < xs.length) : lsA (xs.take (i + 1)) = lsA (xs.take i) ++ (if ownN (xs.getD i fl0).nm = true then [] else lsF (xs.getD i fl0).dt) := by
  unfold lsA
  rw [List.take_succ_eq_append_getElem h, show xs[i] = xs.getD i fl0 by simp [List.getD, h], List.flatMap_append, List.flatMap_cons, List.flatMap_nil, List.append_nil]
theorem lsA_take_le (xs : List Fl) (i : Nat) : cntL (lsA (xs.take i)) ≤ datas xs := by
  have h1 := lsA_cnt (xs.take i)
  have h2 := datas_take_le xs i
  omega
/-- All entries are good. -/
theorem lsA_ent {xs : List Fl} {e : En} (h : e ∈ (lsA xs).flatten) : entOk e = true := by
  obtain ⟨es, h1, h2⟩ := List.mem_flatten.1 h
  exact List.all_eq_true.1 (lsA_ok h1) e h2
/-- The data of a file by its name; the table; a mark's number. -/
def dtA (xs : List Fl) (l : List UInt8) : ByteArray := ((fm xs l).getD (ByteArray.empty, 0)).1
def tabB : List UInt8 := [114, 101, 112, 97, 105, 114, 46, 116, 97, 98]
def goB : List UInt8 := [114, 101, 112, 97, 105, 114, 46, 103, 111]
def okB : List UInt8 := [114, 101, 112, 97, 105, 114, 46, 111, 107]
def mkAt (xs : List Fl) (l : List UInt8) : Option Nat := if (rtO (dtA xs tabB)).isSome = true then mkN (dtA xs l) else none
/-- What View gives. -/
def vwE (xs : List Fl) (q fu : Int) : List En × Int :=
  if vldB xs q fu = true then
    match mkAt xs goB with
    | some m => (rtL (dtA xs tabB), (m : Int))
    | none =>
      match mkAt xs okB with
      | some m => (rtL (dtA xs tabB), (m : Int))
      | none => (newE (lsA xs).flatten, lastE (lsA xs).flatten)
  else ([], 0)
theorem mkAt_le {xs : List Fl} {l : List UInt8} {m : Nat} (h : mkAt xs l = some m) : m ≤ 72057594037927935 := by
  unfold mkAt at h
  split at h
  · exact mk_le h
  · cases h
end Go.Proofs.YtgmfjninimebmaaGreatDoor
namespace Go.Proofs.YtgmfjninimebmaaGreatDoor
open Go.RowKit
set_option linter.unusedVariables false
set_option linter.unusedSimpArgs false

/-- The slices of lists. -/
def cellsS (L : List LV) : List Value := L.map fun l => .slice l.a l.xs.length l.cap
theorem cellsS_snoc (L : List LV) (l : LV) : cellsS (L ++ [l]) = cellsS L ++ [.slice l.a l.xs.length l.cap] := by simp [cellsS]
theorem cellsS_app (L M : List LV) : cellsS (L ++ M) = cellsS L ++ cellsS M := by simp [cellsS]
theorem cellsS_at (L : List LV) (i : Nat) (h : i < L.length) : (cellsS L)[i]? = some (.slice (L.getD i lv0).a (L.getD i lv0).xs.length (L.getD i lv0).cap) := by simp [cellsS, List.getD, h]
theorem lst_info : (Tryz.prog.info? 26).map (fun i => (i.zero, i.size, i.bytes)) = some (some (.slice none 0 0), 1, 24) := by kernel_rfl
/-- A row of lists that the call owns, each list made by it too. -/
structure OwnL (w : World) (B : Nat) (v : Value) (L : List LV) : Prop where
  row : w.ownsRow B 26 1 v L.length (cellsS L)
  all : ∀ l ∈ L, ResE w B l.a l.xs
theorem OwnL.nil (w : World) (B : Nat) : OwnL w B (.slice none 0 0) [] := ⟨⟨rfl, .inl ⟨rfl, rfl⟩⟩, fun l hl => by cases hl⟩
theorem OwnL.lit (w : World) (B : Nat) (hB : B ≤ w.heap.size) : OwnL (w.alloc (.cells #[] 26)) B (.slice (some ⟨w.heap.size, 0, none⟩) 0 0) [] :=
  ⟨⟨rfl, .inr ⟨w.heap.size, 0, #[], rfl, hB, World.heap_alloc_new _ _, Nat.le_refl _, Nat.zero_le _, rfl, rfl⟩⟩, fun l hl => by cases hl⟩
theorem OwnL.below {w w' : World} {B : Nat} {v : Value} {L : List LV} (h : OwnL w B v L) (hb : Below w.heap.size w w') : OwnL w' B v L := by
  refine ⟨?_, fun l hl => (h.all l hl).below hb⟩
  obtain ⟨h1, h2⟩ := h.row
  refine ⟨h1, ?_⟩
  rcases h2 with h2 | ⟨g, cap, cur, e, hg, hbk, r⟩
  · exact .inl h2
  · exact .inr ⟨g, cap, cur, e, hg, (hb.block g (by
      by_cases hl : g < w.heap.size
      · exact hl
      · rw [Array.getElem?_eq_none (by omega)] at hbk; cases hbk)).trans hbk, r⟩
theorem OwnL.lie {w : World} {B : Nat} {v : Value} {L : List LV} (h : OwnL w B v L) : ∃ a cap, v = .slice a L.length cap ∧ LieSS w a L ∧ L.length ≤ cap ∧ (L ≠ [] → ∃ g, a = some ⟨g, 0, none⟩ ∧ B ≤ g) := by
  obtain ⟨h1, h2⟩ := h.row
  rcases h2 with ⟨rfl, h0⟩ | ⟨g, cap, cur, rfl, hg, hbk, hl, hm, hsz, htk⟩
  · have hL := List.length_eq_zero_iff.1 h0
    exact ⟨none, 0, by rw [h0], .inl hL, by omega, fun hn => absurd hL hn⟩
  · refine ⟨some ⟨g, 0, none⟩, cap, rfl, .inr ⟨g, 0, rfl, ?_, fun i hi => ⟨?_, ?_⟩⟩, hl, fun _ => ⟨g, rfl, hg⟩⟩
    · by_cases hlt : g < w.heap.size
      · exact hlt
      · rw [Array.getElem?_eq_none (by omega)] at hbk; cases hbk
    · have e1 : (cur.toList.take (L.length * 1))[i]? = (cellsS L)[i]? := by rw [htk]
      rw [List.getElem?_take_of_lt (by omega), cellsS_at L i hi] at e1
      have e2 : cur[i]? = some (.slice (L.getD i lv0).a (L.getD i lv0).xs.length (L.getD i lv0).cap) := by rw [← e1]; simp
      rw [Nat.zero_add]
      simp [World.cell?, hbk, e2]
    · refine (h.all _ ?_).lie
      simp [List.getD, hi]
/-- Another row of the call's own grew. -/
theorem ResE.grownL {W w1 : World} {B B' n : Nat} {v : Value} {ys : List Value} {a : Option Addr} {xs : List En} (h : ResE W B a xs) (hg : W.grownBy w1 v.ownBlock) (hrow : W.ownsRow B' 26 1 v n ys) : ResE w1 B a xs := by
  rcases h with h | ⟨g, rfl, hB, hr⟩
  · exact .inl h
  · refine .inr ⟨g, rfl, hB, hr.block (hg.block g hr.lt fun e => ?_)⟩
    obtain ⟨cs, hc, -⟩ := hr
    rcases hrow.2 with ⟨rfl, -⟩ | ⟨g', cap, cur, rfl, hg', hbk, -⟩
    · cases e
    · cases e
      rw [hc] at hbk
      simp at hbk
theorem OwnL.app {W w1 : World} {B : Nat} {v v' : Value} {L : List LV} {l : LV} (h : OwnL W B v L) (hl : ResE W B l.a l.xs) (hg : W.grownBy w1 v.ownBlock) (hrow : w1.ownsRow B 26 1 v' (L.length + 1) (cellsS L ++ [.slice l.a l.xs.length l.cap])) : OwnL w1 B v' (L ++ [l]) := by
  refine ⟨?_, fun x hx => ?_⟩
  · rw [List.length_append, cellsS_snoc]
    exact hrow
  · rcases List.mem_append.1 hx with hx | hx
    · exact (h.all x hx).grownL hg h.row
    · rw [List.mem_singleton] at hx
      subst hx
      exact hl.grownL hg h.row
end Go.Proofs.YtgmfjninimebmaaGreatDoor
