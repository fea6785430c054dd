/- The walks of package interval: the exported functions. -/
import Derived.Test.YtijnnfioggjaeaaIvlWalksB
namespace Go.Proofs.Ytijnnfioggjaeaa
open Go.RowKit

set_option maxHeartbeats 2000000 in
theorem combined_bad (F : Nat) (al ah bl bh : Int) (hv : (Ivl.validB al ah && Ivl.validB bl bh) = false) (w : World) :
    Calls Try.prog 17 #[.agg #[.int .i64 al, .int .i64 ah], .agg #[.int .i64 bl, .int .i64 bh], .func (.func F) #[] #[]] w
      fun e w' => e = .returned (.agg #[.int .i64 0, .int .i64 0]) ∧ Below w.heap.size w w' := by
  cases hva : Ivl.validB al ah
  · go_enter Try.func17, Try.ntmps17
    go_wp2_with fail
    refine (valid_any _ _ _).mono ?_
    rintro e w1 ⟨rfl, hb1⟩
    obtain ⟨hc1, hd1⟩ := bcell hb1
    have z1 : w.heap.size + 4 ≤ w1.heap.size := by have := hb1.size; simp only [size_alloc] at this; omega
    have hbw : Below w.heap.size w w1 := (((((Below.refl _ _).alloc (Nat.le_refl _) _).alloc (by simp only [size_alloc]; omega) _).alloc (by simp only [size_alloc]; omega) _).alloc (by simp only [size_alloc]; omega) _).trans (hb1.mono (by simp only [size_alloc]; omega))
    clear hb1
    go_wp2
    refine bodyPost_ret (v := .agg #[.int .i64 0, .int .i64 0]) (by simp [results, Try.results17, go_sem, hc1]) rfl ⟨rfl, ?_⟩
    exact (hbw.setCell (by show w.heap.size ≤ w.heap.size + 1 + 1 + 1; omega) _).setCell (by show w.heap.size ≤ w.heap.size + 1 + 1 + 1; omega) _
  · have hvb : Ivl.validB bl bh = false := by rw [hva] at hv; simpa using hv
    clear hv
    go_enter Try.func17, Try.ntmps17
    go_wp2_with fail
    refine (valid_any _ _ _).mono ?_
    rintro e w1 ⟨rfl, hb1⟩
    obtain ⟨hc1, hd1⟩ := bcell hb1
    go_wp2_with fail
    refine (valid_any _ _ _).mono ?_
    rintro e w2 ⟨rfl, hb2⟩
    have z1 : w.heap.size + 4 ≤ w1.heap.size := by have := hb1.size; simp only [size_alloc] at this; omega
    have z2 : w1.heap.size ≤ w2.heap.size := hb2.size
    have f5 : w2.cell? ⟨w.heap.size + 1 + 1 + 1, 0, none⟩ = some (.int .i64 0) := by rw [hb2.cell (by show w.heap.size + 1 + 1 + 1 < _; omega), hb1.cell (by simp only [size_alloc]; omega)]; simp [cell_alloc, Nat.add_assoc]
    have f6 : w2.cell? ⟨w.heap.size + 1 + 1 + 1, 1, none⟩ = some (.int .i64 0) := by rw [hb2.cell (by show w.heap.size + 1 + 1 + 1 < _; omega), hb1.cell (by simp only [size_alloc]; omega)]; simp [cell_alloc, Nat.add_assoc]
    have f7 : w2.frozen? ⟨w.heap.size + 1 + 1 + 1, 0, none⟩ = false := by rw [hb2.frozen (by show w.heap.size + 1 + 1 + 1 < _; omega), hb1.frozen (by simp only [size_alloc]; omega)]; simp [frozen_alloc, Nat.add_assoc]
    have f8 : w2.frozen? ⟨w.heap.size + 1 + 1 + 1, 1, none⟩ = false := by rw [hb2.frozen (by show w.heap.size + 1 + 1 + 1 < _; omega), hb1.frozen (by simp only [size_alloc]; omega)]; simp [frozen_alloc, Nat.add_assoc]
    have hbw : Below w.heap.size w w2 := ((((((Below.refl _ _).alloc (Nat.le_refl _) _).alloc (by simp only [size_alloc]; omega) _).alloc (by simp only [size_alloc]; omega) _).alloc (by simp only [size_alloc]; omega) _).trans (hb1.mono (by simp only [size_alloc]; omega))).trans (hb2.mono (by omega))
    clear hb1 hb2 hc1 hd1
    go_wp2
    refine bodyPost_ret (v := .agg #[.int .i64 0, .int .i64 0]) (by simp [results, Try.results17, go_sem, f5, f6]) rfl ⟨rfl, ?_⟩
    exact (hbw.setCell (by show w.heap.size ≤ w.heap.size + 1 + 1 + 1; omega) _).setCell (by show w.heap.size ≤ w.heap.size + 1 + 1 + 1; omega) _
theorem combined_all (F : Nat) (g : Int → Int → Int) (al ah bl bh : Int) (w : World)
    (hE : ∀ x y w, (callFunc F #[.int .i64 x, .int .i64 y]).run Try.prog w = .ok (.enter F #[.int .i64 x, .int .i64 y]) w)
    (hF : ∀ x y w, -1000000000000 ≤ x ∧ x ≤ 1000000000000 → -1000000000000 ≤ y ∧ y ≤ 1000000000000 → Calls Try.prog F #[.int .i64 x, .int .i64 y] w fun e w' => e = .returned (.int .i64 (g x y)) ∧ w = w') :
    Calls Try.prog 17 #[.agg #[.int .i64 al, .int .i64 ah], .agg #[.int .i64 bl, .int .i64 bh], .func (.func F) #[] #[]] w
      fun e w' => e = .returned (.agg #[.int .i64 (Ivl.comb g al ah bl bh).1, .int .i64 (Ivl.comb g al ah bl bh).2]) ∧ Below w.heap.size w w' := by
  unfold Ivl.comb
  cases hv : (Ivl.validB al ah && Ivl.validB bl bh)
  · exact combined_bad F al ah bl bh hv w
  · simp only [Bool.and_eq_true] at hv
    exact combined_any F g al ah bl bh hv.1 hv.2 w hE hF

set_option maxHeartbeats 1000000 in
theorem add_any (al ah bl bh : Int) (w : World) :
    Calls Try.prog 7 #[.agg #[.int .i64 al, .int .i64 ah], .agg #[.int .i64 bl, .int .i64 bh]] w
      fun e w' => e = .returned (.agg #[.int .i64 (Ivl.comb Ivl.plus al ah bl bh).1, .int .i64 (Ivl.comb Ivl.plus al ah bl bh).2]) ∧ Below w.heap.size w w' := by
  go_enter Try.func7, Try.ntmps7
  go_wp2_with fail
  refine (combined_all 18 Ivl.plus al ah bl bh _ enter_plus (fun x y w hx hy => plus_any x y hx hy w)).mono ?_
  rintro e w1 ⟨rfl, hb1⟩
  obtain ⟨hc1, hd1⟩ := bcell hb1
  have z1 : w.heap.size + 3 ≤ w1.heap.size := by have := hb1.size; simp only [size_alloc] at this; omega
  have hbw : Below w.heap.size w w1 := ((((Below.refl _ _).alloc (Nat.le_refl _) _).alloc (by simp only [size_alloc]; omega) _).alloc (by simp only [size_alloc]; omega) _).trans (hb1.mono (by simp only [size_alloc]; omega))
  clear hb1
  go_wp2
  refine bodyPost_ret (v := .agg #[.int .i64 (Ivl.comb Ivl.plus al ah bl bh).1, .int .i64 (Ivl.comb Ivl.plus al ah bl bh).2]) (by simp [results, Try.results7, go_sem, hc1]) rfl ⟨rfl, ?_⟩
  exact (hbw.setCell (by show w.heap.size ≤ w.heap.size + 1 + 1; omega) _).setCell (by show w.heap.size ≤ w.heap.size + 1 + 1; omega) _
set_option maxHeartbeats 1000000 in
theorem sub_any (al ah bl bh : Int) (w : World) :
    Calls Try.prog 8 #[.agg #[.int .i64 al, .int .i64 ah], .agg #[.int .i64 bl, .int .i64 bh]] w
      fun e w' => e = .returned (.agg #[.int .i64 (Ivl.comb Ivl.minus al ah bl bh).1, .int .i64 (Ivl.comb Ivl.minus al ah bl bh).2]) ∧ Below w.heap.size w w' := by
  go_enter Try.func8, Try.ntmps8
  go_wp2_with fail
  refine (combined_all 19 Ivl.minus al ah bl bh _ enter_minus (fun x y w hx hy => minus_any x y hx hy w)).mono ?_
  rintro e w1 ⟨rfl, hb1⟩
  obtain ⟨hc1, hd1⟩ := bcell hb1
  have z1 : w.heap.size + 3 ≤ w1.heap.size := by have := hb1.size; simp only [size_alloc] at this; omega
  have hbw : Below w.heap.size w w1 := ((((Below.refl _ _).alloc (Nat.le_refl _) _).alloc (by simp only [size_alloc]; omega) _).alloc (by simp only [size_alloc]; omega) _).trans (hb1.mono (by simp only [size_alloc]; omega))
  clear hb1
  go_wp2
  refine bodyPost_ret (v := .agg #[.int .i64 (Ivl.comb Ivl.minus al ah bl bh).1, .int .i64 (Ivl.comb Ivl.minus al ah bl bh).2]) (by simp [results, Try.results8, go_sem, hc1]) rfl ⟨rfl, ?_⟩
  exact (hbw.setCell (by show w.heap.size ≤ w.heap.size + 1 + 1; omega) _).setCell (by show w.heap.size ≤ w.heap.size + 1 + 1; omega) _
set_option maxHeartbeats 1000000 in
theorem mul_any (al ah bl bh : Int) (w : World) :
    Calls Try.prog 9 #[.agg #[.int .i64 al, .int .i64 ah], .agg #[.int .i64 bl, .int .i64 bh]] w
      fun e w' => e = .returned (.agg #[.int .i64 (Ivl.comb Ivl.times al ah bl bh).1, .int .i64 (Ivl.comb Ivl.times al ah bl bh).2]) ∧ Below w.heap.size w w' := by
  go_enter Try.func9, Try.ntmps9
  go_wp2_with fail
  refine (combined_all 20 Ivl.times al ah bl bh _ enter_times (fun x y w hx hy => times_any x y hx hy w)).mono ?_
  rintro e w1 ⟨rfl, hb1⟩
  obtain ⟨hc1, hd1⟩ := bcell hb1
  have z1 : w.heap.size + 3 ≤ w1.heap.size := by have := hb1.size; simp only [size_alloc] at this; omega
  have hbw : Below w.heap.size w w1 := ((((Below.refl _ _).alloc (Nat.le_refl _) _).alloc (by simp only [size_alloc]; omega) _).alloc (by simp only [size_alloc]; omega) _).trans (hb1.mono (by simp only [size_alloc]; omega))
  clear hb1
  go_wp2
  refine bodyPost_ret (v := .agg #[.int .i64 (Ivl.comb Ivl.times al ah bl bh).1, .int .i64 (Ivl.comb Ivl.times al ah bl bh).2]) (by simp [results, Try.results9, go_sem, hc1]) rfl ⟨rfl, ?_⟩
  exact (hbw.setCell (by show w.heap.size ≤ w.heap.size + 1 + 1; omega) _).setCell (by show w.heap.size ≤ w.heap.size + 1 + 1; omega) _

end Go.Proofs.Ytijnnfioggjaeaa
