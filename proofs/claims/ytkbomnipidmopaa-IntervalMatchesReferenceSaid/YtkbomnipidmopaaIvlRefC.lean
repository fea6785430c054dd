/- The walks of the reference implementation of intervals: products, joins, comparing, three-valued logic. -/
import Derived.Test.YtkbomnipidmopaaIvlRefB
namespace Go.Proofs.Ytkbomnipidmopaa
open Go.RowKit

/-- The builtin min and max of four numbers. -/
theorem run_min4 {P : Program} (ts : Array TypeId) (t : TypeId) (a b c d : Int) (w : World) : (Builtin.min_ ts t #[.int .i64 a, .int .i64 b, .int .i64 c, .int .i64 d]).run P w = .ok (.int .i64 (Ivl.low a [b, c, d])) w := by
  have e : Ivl.low a [b, c, d] = Ivl.imin (Ivl.imin (Ivl.imin a b) c) d := rfl
  rw [e]
  simp [Builtin.min_, Builtin.min2, Ivl.imin]
  rfl
theorem run_max4 {P : Program} (ts : Array TypeId) (t : TypeId) (a b c d : Int) (w : World) : (Builtin.max_ ts t #[.int .i64 a, .int .i64 b, .int .i64 c, .int .i64 d]).run P w = .ok (.int .i64 (Ivl.high a [b, c, d])) w := by
  have e : Ivl.high a [b, c, d] = Ivl.imax (Ivl.imax (Ivl.imax a b) c) d := rfl
  rw [e]
  simp [Builtin.max_, Builtin.max2, Ivl.imax]
  rfl

set_option maxHeartbeats 2000000 in
theorem refMul_bad (al ah bl bh : Int) (hv : (Ivl.validB al ah && Ivl.validB bl bh) = false) (w : World) :
    Calls Try.prog 18 #[.agg #[.int .i64 al, .int .i64 ah], .agg #[.int .i64 bl, .int .i64 bh]] w
      fun e w' => e = .returned (.agg #[.int .i64 0, .int .i64 0]) ∧ Below w.heap.size w w' := by
  cases hva : Ivl.validB al ah
  · go_enter Try.func18, Try.ntmps18
    go_wp2_with fail
    refine (refValid_any _ _ _).mono ?_
    rintro e v1 ⟨rfl, hb⟩
    obtain ⟨hc, hd⟩ := bcell hb
    have z1 : w.heap.size + 3 ≤ v1.heap.size := by have := hb.size; simp only [size_alloc] at this; omega
    have hbw : Below w.heap.size w v1 := ((((Below.refl _ _).alloc (Nat.le_refl _) _).alloc (by simp only [size_alloc]; omega) _).alloc (by simp only [size_alloc]; omega) _).trans (hb.mono (by simp only [size_alloc]; omega))
    clear hb
    go_wp2
    refine bodyPost_ret (v := .agg #[.int .i64 0, .int .i64 0]) (by simp [results, Try.results18, go_sem, hc]) rfl ⟨rfl, ?_⟩
    exact (hbw.setCell (by show w.heap.size ≤ w.heap.size + 1 + 1; omega) _).setCell (by show w.heap.size ≤ w.heap.size + 1 + 1; omega) _
  · have hvb : Ivl.validB bl bh = false := by rw [hva] at hv; simpa using hv
    clear hv
    go_enter Try.func18, Try.ntmps18
    go_wp2_with fail
    refine (refValid_any _ _ _).mono ?_
    rintro e v2 ⟨rfl, hb⟩
    obtain ⟨hc, hd⟩ := bcell hb
    go_wp2_with fail
    refine (refValid_any _ _ _).mono ?_
    rintro e v3 ⟨rfl, h⟩
    replace hb := hb.trans (h.mono hb.size)
    clear h hc hd
    obtain ⟨hc, hd⟩ := bcell hb
    have z1 : w.heap.size + 3 ≤ v3.heap.size := by have := hb.size; simp only [size_alloc] at this; omega
    have hbw : Below w.heap.size w v3 := ((((Below.refl _ _).alloc (Nat.le_refl _) _).alloc (by simp only [size_alloc]; omega) _).alloc (by simp only [size_alloc]; omega) _).trans (hb.mono (by simp only [size_alloc]; omega))
    clear hb
    go_wp2
    refine bodyPost_ret (v := .agg #[.int .i64 0, .int .i64 0]) (by simp [results, Try.results18, go_sem, hc]) rfl ⟨rfl, ?_⟩
    exact (hbw.setCell (by show w.heap.size ≤ w.heap.size + 1 + 1; omega) _).setCell (by show w.heap.size ≤ w.heap.size + 1 + 1; omega) _

set_option maxHeartbeats 4000000 in
theorem refMul_good (al ah bl bh : Int) (hva : Ivl.validB al ah = true) (hvb : Ivl.validB bl bh = true) (w : World) :
    Calls Try.prog 18 #[.agg #[.int .i64 al, .int .i64 ah], .agg #[.int .i64 bl, .int .i64 bh]] w
      fun e w' => e = .returned (.agg #[.int .i64 (Ivl.low (Ivl.times al bl) [Ivl.times al bh, Ivl.times ah bl, Ivl.times ah bh]), .int .i64 (Ivl.high (Ivl.times al bl) [Ivl.times al bh, Ivl.times ah bl, Ivl.times ah bh])]) ∧ Below w.heap.size w w' := by
  obtain ⟨va1, va2, va3⟩ := Ivl.valid_iff.1 hva
  obtain ⟨vb1, vb2, vb3⟩ := Ivl.valid_iff.1 hvb
  go_enter Try.func18, Try.ntmps18
  go_wp2_with fail
  refine (refValid_any _ _ _).mono ?_
  rintro e v1 ⟨rfl, hb⟩
  obtain ⟨hc, hd⟩ := bcell hb
  go_wp2_with fail
  refine (refValid_any _ _ _).mono ?_
  rintro e v2 ⟨rfl, h⟩
  replace hb := hb.trans (h.mono hb.size)
  clear h hc hd
  obtain ⟨hc, hd⟩ := bcell hb
  have z1 : w.heap.size + 3 ≤ v2.heap.size := by have := hb.size; simp only [size_alloc] at this; omega
  have hbw : Below w.heap.size w v2 := ((((Below.refl _ _).alloc (Nat.le_refl _) _).alloc (by simp only [size_alloc]; omega) _).alloc (by simp only [size_alloc]; omega) _).trans (hb.mono (by simp only [size_alloc]; omega))
  clear hb
  have f1 := hc w.heap.size 0 (by simp only [size_alloc]; omega)
  have f2 := hc w.heap.size 1 (by simp only [size_alloc]; omega)
  have f3 := hc (w.heap.size + 1) 0 (by simp only [size_alloc]; omega)
  have f4 := hc (w.heap.size + 1) 1 (by simp only [size_alloc]; omega)
  have g5 := hc (w.heap.size + 1 + 1) 0 (by simp only [size_alloc]; omega)
  have g6 := hc (w.heap.size + 1 + 1) 1 (by simp only [size_alloc]; omega)
  have g7 := hd (w.heap.size + 1 + 1) 0 (by simp only [size_alloc]; omega)
  have g8 := hd (w.heap.size + 1 + 1) 1 (by simp only [size_alloc]; omega)
  simp [cell_alloc, frozen_alloc, Nat.add_assoc] at f1 f2 f3 f4 g5 g6 g7 g8
  clear hc hd
  go_wp2_with fail
  refine (refTimes_any _ _ (by omega) (by omega) _).mono ?_
  rintro e _ ⟨rfl, rfl⟩
  go_wp2_with fail
  refine (refTimes_any _ _ (by omega) (by omega) _).mono ?_
  rintro e _ ⟨rfl, rfl⟩
  go_wp2_with fail
  refine (refTimes_any _ _ (by omega) (by omega) _).mono ?_
  rintro e _ ⟨rfl, rfl⟩
  go_wp2_with fail
  refine (refTimes_any _ _ (by omega) (by omega) _).mono ?_
  rintro e _ ⟨rfl, rfl⟩
  obtain ⟨t1, H1⟩ : ∃ t, Hid (t = Ivl.times al bl) := ⟨_, Lib.hid rfl⟩
  obtain ⟨t2, H2⟩ : ∃ t, Hid (t = Ivl.times al bh) := ⟨_, Lib.hid rfl⟩
  obtain ⟨t3, H3⟩ : ∃ t, Hid (t = Ivl.times ah bl) := ⟨_, Lib.hid rfl⟩
  obtain ⟨t4, H4⟩ : ∃ t, Hid (t = Ivl.times ah bh) := ⟨_, Lib.hid rfl⟩
  rw [← H1.out, ← H2.out, ← H3.out, ← H4.out]
  have hmin := fun (ts : Array TypeId) (t : TypeId) (w : World) => run_min4 (P := Try.prog) ts t t1 t2 t3 t4 w
  have hmax := fun (ts : Array TypeId) (t : TypeId) (w : World) => run_max4 (P := Try.prog) ts t t1 t2 t3 t4 w
  go_wp2
  refine bodyPost_ret (v := .agg #[.int .i64 (Ivl.low t1 [t2, t3, t4]), .int .i64 (Ivl.high t1 [t2, t3, t4])]) (by simp [results, Try.results18, go_sem, g5, g6]) rfl ⟨by rw [H1.out, H2.out, H3.out, H4.out], ?_⟩
  exact (hbw.setCell (by show w.heap.size ≤ w.heap.size + 1 + 1; omega) _).setCell (by show w.heap.size ≤ w.heap.size + 1 + 1; omega) _

set_option maxHeartbeats 2000000 in
theorem refJoin_bad (al ah bl bh : Int) (hv : (Ivl.validB al ah && Ivl.validB bl bh) = false) (w : World) :
    Calls Try.prog 20 #[.agg #[.int .i64 al, .int .i64 ah], .agg #[.int .i64 bl, .int .i64 bh]] w
      fun e w' => e = .returned (.agg #[.int .i64 0, .int .i64 0]) ∧ Below w.heap.size w w' := by
  cases hva : Ivl.validB al ah
  · go_enter Try.func20, Try.ntmps20
    go_wp2_with fail
    refine (refValid_any _ _ _).mono ?_
    rintro e v1 ⟨rfl, hb⟩
    obtain ⟨hc, hd⟩ := bcell hb
    have z1 : w.heap.size + 3 ≤ v1.heap.size := by have := hb.size; simp only [size_alloc] at this; omega
    have hbw : Below w.heap.size w v1 := ((((Below.refl _ _).alloc (Nat.le_refl _) _).alloc (by simp only [size_alloc]; omega) _).alloc (by simp only [size_alloc]; omega) _).trans (hb.mono (by simp only [size_alloc]; omega))
    clear hb
    go_wp2
    refine bodyPost_ret (v := .agg #[.int .i64 0, .int .i64 0]) (by simp [results, Try.results20, go_sem, hc]) rfl ⟨rfl, ?_⟩
    exact (hbw.setCell (by show w.heap.size ≤ w.heap.size + 1 + 1; omega) _).setCell (by show w.heap.size ≤ w.heap.size + 1 + 1; omega) _
  · have hvb : Ivl.validB bl bh = false := by rw [hva] at hv; simpa using hv
    clear hv
    go_enter Try.func20, Try.ntmps20
    go_wp2_with fail
    refine (refValid_any _ _ _).mono ?_
    rintro e v2 ⟨rfl, hb⟩
    obtain ⟨hc, hd⟩ := bcell hb
    go_wp2_with fail
    refine (refValid_any _ _ _).mono ?_
    rintro e v3 ⟨rfl, h⟩
    replace hb := hb.trans (h.mono hb.size)
    clear h hc hd
    obtain ⟨hc, hd⟩ := bcell hb
    have z1 : w.heap.size + 3 ≤ v3.heap.size := by have := hb.size; simp only [size_alloc] at this; omega
    have hbw : Below w.heap.size w v3 := ((((Below.refl _ _).alloc (Nat.le_refl _) _).alloc (by simp only [size_alloc]; omega) _).alloc (by simp only [size_alloc]; omega) _).trans (hb.mono (by simp only [size_alloc]; omega))
    clear hb
    go_wp2
    refine bodyPost_ret (v := .agg #[.int .i64 0, .int .i64 0]) (by simp [results, Try.results20, go_sem, hc]) rfl ⟨rfl, ?_⟩
    exact (hbw.setCell (by show w.heap.size ≤ w.heap.size + 1 + 1; omega) _).setCell (by show w.heap.size ≤ w.heap.size + 1 + 1; omega) _

set_option maxHeartbeats 4000000 in
theorem refJoin_good (al ah bl bh : Int) (hva : Ivl.validB al ah = true) (hvb : Ivl.validB bl bh = true) (w : World) :
    Calls Try.prog 20 #[.agg #[.int .i64 al, .int .i64 ah], .agg #[.int .i64 bl, .int .i64 bh]] w
      fun e w' => e = .returned (.agg #[.int .i64 (Ivl.join al ah bl bh).1, .int .i64 (Ivl.join al ah bl bh).2]) ∧ Below w.heap.size w w' := by
  have Hj := Lib.hid (Ivl.join_cases hva hvb)
  obtain ⟨va1, va2, va3⟩ := Ivl.valid_iff.1 hva
  obtain ⟨vb1, vb2, vb3⟩ := Ivl.valid_iff.1 hvb
  go_enter Try.func20, Try.ntmps20
  go_wp2_with fail
  refine (refValid_any _ _ _).mono ?_
  rintro e v1 ⟨rfl, hb⟩
  obtain ⟨hc, hd⟩ := bcell hb
  go_wp2_with fail
  refine (refValid_any _ _ _).mono ?_
  rintro e v2 ⟨rfl, h⟩
  replace hb := hb.trans (h.mono hb.size)
  clear h hc hd
  obtain ⟨hc, hd⟩ := bcell hb
  have z1 : w.heap.size + 3 ≤ v2.heap.size := by have := hb.size; simp only [size_alloc] at this; omega
  have hbw : Below w.heap.size w v2 := ((((Below.refl _ _).alloc (Nat.le_refl _) _).alloc (by simp only [size_alloc]; omega) _).alloc (by simp only [size_alloc]; omega) _).trans (hb.mono (by simp only [size_alloc]; omega))
  clear hb
  have f1 := hc w.heap.size 0 (by simp only [size_alloc]; omega)
  have f2 := hc w.heap.size 1 (by simp only [size_alloc]; omega)
  have f3 := hc (w.heap.size + 1) 0 (by simp only [size_alloc]; omega)
  have f4 := hc (w.heap.size + 1) 1 (by simp only [size_alloc]; omega)
  have g5 := hc (w.heap.size + 1 + 1) 0 (by simp only [size_alloc]; omega)
  have g6 := hc (w.heap.size + 1 + 1) 1 (by simp only [size_alloc]; omega)
  have g7 := hd (w.heap.size + 1 + 1) 0 (by simp only [size_alloc]; omega)
  have g8 := hd (w.heap.size + 1 + 1) 1 (by simp only [size_alloc]; omega)
  simp [cell_alloc, frozen_alloc, Nat.add_assoc] at f1 f2 f3 f4 g5 g6 g7 g8
  clear hc hd
  go_wp2
  all_goals
    first
      | (refine bodyPost_ret (v := .agg #[.int .i64 al, .int .i64 ah]) ?_ rfl ⟨?_, ?_⟩
         · simp [results, Try.results20, go_sem, g5, g6]; done
         · have h := Hj.out; rw [show (Ivl.join al ah bl bh).1 = al by omega, show (Ivl.join al ah bl bh).2 = ah by omega]
         · exact (hbw.setCell (by show w.heap.size ≤ w.heap.size + 1 + 1; omega) _).setCell (by show w.heap.size ≤ w.heap.size + 1 + 1; omega) _)
      | (refine bodyPost_ret (v := .agg #[.int .i64 al, .int .i64 bh]) ?_ rfl ⟨?_, ?_⟩
         · simp [results, Try.results20, go_sem, g5, g6]; done
         · have h := Hj.out; rw [show (Ivl.join al ah bl bh).1 = al by omega, show (Ivl.join al ah bl bh).2 = bh by omega]
         · exact (hbw.setCell (by show w.heap.size ≤ w.heap.size + 1 + 1; omega) _).setCell (by show w.heap.size ≤ w.heap.size + 1 + 1; omega) _)
      | (refine bodyPost_ret (v := .agg #[.int .i64 bl, .int .i64 ah]) ?_ rfl ⟨?_, ?_⟩
         · simp [results, Try.results20, go_sem, g5, g6]; done
         · have h := Hj.out; rw [show (Ivl.join al ah bl bh).1 = bl by omega, show (Ivl.join al ah bl bh).2 = ah by omega]
         · exact (hbw.setCell (by show w.heap.size ≤ w.heap.size + 1 + 1; omega) _).setCell (by show w.heap.size ≤ w.heap.size + 1 + 1; omega) _)
      | (refine bodyPost_ret (v := .agg #[.int .i64 bl, .int .i64 bh]) ?_ rfl ⟨?_, ?_⟩
         · simp [results, Try.results20, go_sem, g5, g6]; done
         · have h := Hj.out; rw [show (Ivl.join al ah bl bh).1 = bl by omega, show (Ivl.join al ah bl bh).2 = bh by omega]
         · exact (hbw.setCell (by show w.heap.size ≤ w.heap.size + 1 + 1; omega) _).setCell (by show w.heap.size ≤ w.heap.size + 1 + 1; omega) _)

set_option maxHeartbeats 1000000 in
theorem refTruth_any (a : Int) (w : World) :
    Calls Try.prog 40 #[.int .i64 a] w fun e w' => e = .returned (.int .i64 (Ivl.known a)) ∧ w = w' := by
  have hc := Ivl.known_cases a
  by_cases h0 : a = 0
  · have h0' : (a != 0) = false := by simp [h0]
    go_enter Try.func40, Try.ntmps40
    go_wp2
    go_ret
    exact ⟨ret_int (by omega), rfl⟩
  · have h0' : (a != 0) = true := by simp [h0]
    by_cases h2 : a = 2
    · have h2' : (a != 2) = false := by simp [h2]
      clear h2
      go_enter Try.func40, Try.ntmps40
      go_wp2
      go_ret
      exact ⟨ret_int (by simp at h2'; omega), rfl⟩
    · have h2' : (a != 2) = true := by simp [h2]
      go_enter Try.func40, Try.ntmps40
      go_wp2
      go_ret
      exact ⟨ret_int (by omega), rfl⟩
set_option maxHeartbeats 1000000 in
theorem refNot_any (a : Int) (w : World) :
    Calls Try.prog 24 #[.int .i64 a] w fun e w' => e = .returned (.int .i64 (Ivl.notT a)) ∧ w = w' := by
  obtain ⟨k1, k2⟩ := known_bd a
  go_enter Try.func24, Try.ntmps24
  go_wp2_with (go_at_call 40; refine (refTruth_any _ _).mono ?_; rintro e w' ⟨rfl, rfl⟩)
  go_ret
  exact ⟨rfl, rfl⟩
set_option maxHeartbeats 1000000 in
theorem refAnd_any (a b : Int) (w : World) :
    Calls Try.prog 26 #[.int .i64 a, .int .i64 b] w fun e w' => e = .returned (.int .i64 (Ivl.andT a b)) ∧ w = w' := by
  have hm := Ivl.imin_cases (Ivl.known a) (Ivl.known b)
  have Hm := Lib.hid hm
  clear hm
  go_enter Try.func26, Try.ntmps26
  go_wp2_with (go_at_call 40; refine (refTruth_any _ _).mono ?_; rintro e w' ⟨rfl, rfl⟩)
  all_goals
    go_ret
    exact ⟨ret_int (by have := Hm.out; unfold Ivl.andT; first | omega | (dsimp only; omega)), rfl⟩
set_option maxHeartbeats 1000000 in
theorem refOr_any (a b : Int) (w : World) :
    Calls Try.prog 28 #[.int .i64 a, .int .i64 b] w fun e w' => e = .returned (.int .i64 (Ivl.orT a b)) ∧ w = w' := by
  have hm := Ivl.imax_cases (Ivl.known a) (Ivl.known b)
  have Hm := Lib.hid hm
  clear hm
  go_enter Try.func28, Try.ntmps28
  go_wp2_with (go_at_call 40; refine (refTruth_any _ _).mono ?_; rintro e w' ⟨rfl, rfl⟩)
  all_goals
    go_ret
    exact ⟨ret_int (by have := Hm.out; unfold Ivl.orT; first | omega | (dsimp only; omega)), rfl⟩

set_option maxHeartbeats 2000000 in
theorem refOver_any (l h n : Int) (w : World) :
    Calls Try.prog 22 #[.agg #[.int .i64 l, .int .i64 h], .int .i64 n] w fun e w' => e = .returned (.int .i64 (Ivl.over l h n)) ∧ Below w.heap.size w w' := by
  have Hc := Lib.hid (Ivl.over_cases l h n)
  cases hv : Ivl.validB l h
  · have Hv := Lib.hid hv
    go_enter Try.func22, Try.ntmps22
    go_wp2_with fail
    refine (refValid_any _ _ _).mono ?_
    rintro e w1 ⟨rfl, hb1⟩
    obtain ⟨hc1, hd1⟩ := bcell hb1
    go_wp2
    go_ret
    exact ⟨ret_int (by have := Hc.out; have h2 := Hv.out; simp [h2] at this; omega), ((Below.refl _ _).alloc (Nat.le_refl _) _).trans (hb1.mono (by rw [size_alloc]; omega))⟩
  · have Hv := Lib.hid hv
    by_cases h1 : h ≤ n
    · go_enter Try.func22, Try.ntmps22
      go_wp2_with fail
      refine (refValid_any _ _ _).mono ?_
      rintro e w1 ⟨rfl, hb1⟩
      obtain ⟨hc1, hd1⟩ := bcell hb1
      go_wp2
      go_ret
      exact ⟨ret_int (by have := Hc.out; have h2 := Hv.out; simp [h2] at this; omega), ((Below.refl _ _).alloc (Nat.le_refl _) _).trans (hb1.mono (by rw [size_alloc]; omega))⟩
    · by_cases h3 : n < l
      · go_enter Try.func22, Try.ntmps22
        go_wp2_with fail
        refine (refValid_any _ _ _).mono ?_
        rintro e w1 ⟨rfl, hb1⟩
        obtain ⟨hc1, hd1⟩ := bcell hb1
        go_wp2
        go_ret
        exact ⟨ret_int (by have := Hc.out; have h2 := Hv.out; simp [h2] at this; omega), ((Below.refl _ _).alloc (Nat.le_refl _) _).trans (hb1.mono (by rw [size_alloc]; omega))⟩
      · go_enter Try.func22, Try.ntmps22
        go_wp2_with fail
        refine (refValid_any _ _ _).mono ?_
        rintro e w1 ⟨rfl, hb1⟩
        obtain ⟨hc1, hd1⟩ := bcell hb1
        go_wp2
        go_ret
        exact ⟨ret_int (by have := Hc.out; have h2 := Hv.out; simp [h2] at this; omega), ((Below.refl _ _).alloc (Nat.le_refl _) _).trans (hb1.mono (by rw [size_alloc]; omega))⟩

theorem refAdd_any (al ah bl bh : Int) (w : World) :
    Calls Try.prog 14 #[.agg #[.int .i64 al, .int .i64 ah], .agg #[.int .i64 bl, .int .i64 bh]] w
      fun e w' => e = .returned (.agg #[.int .i64 (Ivl.comb Ivl.plus al ah bl bh).1, .int .i64 (Ivl.comb Ivl.plus al ah bl bh).2]) ∧ Below w.heap.size w w' := by
  cases hv : (Ivl.validB al ah && Ivl.validB bl bh)
  · rw [Ivl.comb_bad hv]; exact refAdd_bad al ah bl bh hv w
  · simp only [Bool.and_eq_true] at hv
    rw [Ivl.comb_plus hv.1 hv.2]; exact refAdd_good al ah bl bh hv.1 hv.2 w
theorem refSub_any (al ah bl bh : Int) (w : World) :
    Calls Try.prog 16 #[.agg #[.int .i64 al, .int .i64 ah], .agg #[.int .i64 bl, .int .i64 bh]] w
      fun e w' => e = .returned (.agg #[.int .i64 (Ivl.comb Ivl.minus al ah bl bh).1, .int .i64 (Ivl.comb Ivl.minus al ah bl bh).2]) ∧ Below w.heap.size w w' := by
  cases hv : (Ivl.validB al ah && Ivl.validB bl bh)
  · rw [Ivl.comb_bad hv]; exact refSub_bad al ah bl bh hv w
  · simp only [Bool.and_eq_true] at hv
    rw [Ivl.comb_minus hv.1 hv.2]; exact refSub_good al ah bl bh hv.1 hv.2 w
theorem refMul_any (al ah bl bh : Int) (w : World) :
    Calls Try.prog 18 #[.agg #[.int .i64 al, .int .i64 ah], .agg #[.int .i64 bl, .int .i64 bh]] w
      fun e w' => e = .returned (.agg #[.int .i64 (Ivl.comb Ivl.times al ah bl bh).1, .int .i64 (Ivl.comb Ivl.times al ah bl bh).2]) ∧ Below w.heap.size w w' := by
  cases hv : (Ivl.validB al ah && Ivl.validB bl bh)
  · rw [Ivl.comb_bad hv]; exact refMul_bad al ah bl bh hv w
  · simp only [Bool.and_eq_true] at hv
    rw [Ivl.comb_of hv.1 hv.2]; exact refMul_good al ah bl bh hv.1 hv.2 w
theorem refJoin_any (al ah bl bh : Int) (w : World) :
    Calls Try.prog 20 #[.agg #[.int .i64 al, .int .i64 ah], .agg #[.int .i64 bl, .int .i64 bh]] w
      fun e w' => e = .returned (.agg #[.int .i64 (Ivl.join al ah bl bh).1, .int .i64 (Ivl.join al ah bl bh).2]) ∧ Below w.heap.size w w' := by
  cases hv : (Ivl.validB al ah && Ivl.validB bl bh)
  · rw [Ivl.join_bad' hv]; exact refJoin_bad al ah bl bh hv w
  · simp only [Bool.and_eq_true] at hv
    exact refJoin_good al ah bl bh hv.1 hv.2 w

end Go.Proofs.Ytkbomnipidmopaa
