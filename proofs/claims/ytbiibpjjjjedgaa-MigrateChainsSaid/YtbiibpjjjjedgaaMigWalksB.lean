/- The walks of package migrate: a life for another limit, and what is left of a life. -/
import Derived.Test.YtbiibpjjjjedgaaMigWalksA
namespace Go.Proofs.Ytbiibpjjjjedgaa
open Go.RowKit

def Mig.downV (n c d : Int) : Int := if Mig.down n c d ≤ 1000000000000 then Mig.down n c d else 0
def Mig.upV (n c d : Int) : Int := if Mig.down n c d ≤ 1000000000000 then Mig.up n c d else 0
theorem down_cast (n c d : Nat) : Mig.down n c d = ((n * d / c : Nat) : Int) := by
  unfold Mig.down; rw [Int.natCast_ediv, Int.natCast_mul]
theorem up_cast {n c d : Nat} (hc : 1 ≤ c) : Mig.up n c d = ((n * d / c + more (n * d % c) : Nat) : Int) := by
  rw [Mig.up_eq (by omega)]
  have e : (n : Int) * d / c = ((n * d / c : Nat) : Int) := by rw [Int.natCast_ediv, Int.natCast_mul]
  have e2 : (n : Int) * d % c = ((n * d % c : Nat) : Int) := by rw [Int.natCast_emod, Int.natCast_mul]
  rw [e, e2]
  unfold more
  split <;> split <;> omega
theorem scaledDown_any (n c d : Int) (hn : 0 ≤ n ∧ n ≤ 1000000000000) (hc : 1 ≤ c ∧ c ≤ 1000000000000) (hd : 1 ≤ d ∧ d ≤ 1000000000000) (w : World) :
    Calls Try.prog 30 #[.int .i64 n, .int .i64 c, .int .i64 d, .func (.func 31) #[] #[]] w
      fun e w' => e = .returned (.tuple #[.int .i64 (Mig.downV n c d), .bool (decide (Mig.down n c d ≤ 1000000000000))]) ∧ Below w.heap.size w w' := by
  obtain ⟨N, rfl⟩ := Int.eq_ofNat_of_zero_le hn.1
  obtain ⟨C, rfl⟩ := Int.eq_ofNat_of_zero_le (show 0 ≤ c by omega)
  obtain ⟨D, rfl⟩ := Int.eq_ofNat_of_zero_le (show 0 ≤ d by omega)
  refine (scaled_any 31 (fun q _ => q) N C D (by omega) (by omega) (by omega) (by omega) w enter_down (fun q r w _ => down_any q r w) (fun q r => by omega)).mono ?_
  rintro e w' ⟨rfl, hb⟩
  refine ⟨?_, hb⟩
  unfold Mig.downV scaledV scaledB
  rw [down_cast]
  have e1 : (decide (N * D / C ≤ 1000000000000) && decide (N * D / C ≤ 1000000000000)) = decide (((N * D / C : Nat) : Int) ≤ 1000000000000) := by
    rw [Bool.and_self]; congr 1; rw [eq_iff_iff]; omega
  have e0 : (if ((N * D / C : Nat) : Int) ≤ 1000000000000 then ((N * D / C : Nat) : Int) else 0) = ((if N * D / C ≤ 1000000000000 then N * D / C else 0 : Nat) : Int) := by
    generalize N * D / C = q
    split <;> split <;> omega
  rw [e1, e0]
theorem scaledUp_any (n c d : Int) (hn : 0 ≤ n ∧ n ≤ 1000000000000) (hc : 1 ≤ c ∧ c ≤ 1000000000000) (hd : 1 ≤ d ∧ d ≤ 1000000000000) (w : World) :
    Calls Try.prog 30 #[.int .i64 n, .int .i64 c, .int .i64 d, .func (.func 32) #[] #[]] w
      fun e w' => e = .returned (.tuple #[.int .i64 (Mig.upV n c d), .bool (decide (Mig.up n c d ≤ 1000000000000))]) ∧ Below w.heap.size w w' := by
  obtain ⟨N, rfl⟩ := Int.eq_ofNat_of_zero_le hn.1
  obtain ⟨C, rfl⟩ := Int.eq_ofNat_of_zero_le (show 0 ≤ c by omega)
  obtain ⟨D, rfl⟩ := Int.eq_ofNat_of_zero_le (show 0 ≤ d by omega)
  have hm : ∀ q r, q + more r ≤ q + 1 := fun q r => by unfold more; split <;> omega
  refine (scaled_any 32 (fun q r => q + more r) N C D (by omega) (by omega) (by omega) (by omega) w enter_up (fun q r w h => up_any q r h w) hm).mono ?_
  rintro e w' ⟨rfl, hb⟩
  refine ⟨?_, hb⟩
  unfold Mig.upV scaledV scaledB
  rw [down_cast, up_cast (by omega)]
  have e1 : (decide (N * D / C ≤ 1000000000000) && decide (N * D / C + more (N * D % C) ≤ 1000000000000)) = decide (((N * D / C + more (N * D % C) : Nat) : Int) ≤ 1000000000000) := by
    rw [← Bool.decide_and]; congr 1; rw [eq_iff_iff]; omega
  have e0 : (if ((N * D / C : Nat) : Int) ≤ 1000000000000 then ((N * D / C + more (N * D % C) : Nat) : Int) else 0) = ((if N * D / C ≤ 1000000000000 then N * D / C + more (N * D % C) else 0 : Nat) : Int) := by
    generalize N * D / C = q
    split <;> split <;> omega
  rw [e1, e0]

/-- The cells of the two blocks that Scale lays. -/
theorem mig_cells {w w1 : World} {l h : Int} (hb : Below ((w.alloc (.cells #[.int .i64 l, .int .i64 h] 23)).alloc (.cells #[.int .i64 0, .int .i64 0] 23)).heap.size ((w.alloc (.cells #[.int .i64 l, .int .i64 h] 23)).alloc (.cells #[.int .i64 0, .int .i64 0] 23)) w1) :
    (w1.cell? ⟨w.heap.size, 0, none⟩ = some (.int .i64 l) ∧ w1.cell? ⟨w.heap.size, 1, none⟩ = some (.int .i64 h)) ∧
    (w1.cell? ⟨w.heap.size + 1, 0, none⟩ = some (.int .i64 0) ∧ w1.cell? ⟨w.heap.size + 1, 1, none⟩ = some (.int .i64 0) ∧ w1.frozen? ⟨w.heap.size + 1, 0, none⟩ = false ∧ w1.frozen? ⟨w.heap.size + 1, 1, none⟩ = false) ∧
    w.heap.size + 2 ≤ w1.heap.size ∧ Below w.heap.size w w1 := by
  obtain ⟨hc, hd⟩ := bcell hb
  have hz := hb.size
  simp only [size_alloc] at hz
  refine ⟨⟨?_, ?_⟩, ⟨?_, ?_, ?_, ?_⟩, hz, (((Below.refl _ _).alloc (Nat.le_refl _) _).alloc (by simp only [size_alloc]; omega) _).trans (hb.mono (by simp only [size_alloc]; omega))⟩
  · rw [hc _ _ (by simp only [size_alloc]; omega)]; simp [cell_alloc, Nat.add_assoc]
  · rw [hc _ _ (by simp only [size_alloc]; omega)]; simp [cell_alloc, Nat.add_assoc]
  · rw [hc _ _ (by simp only [size_alloc]; omega)]; simp [cell_alloc, Nat.add_assoc]
  · rw [hc _ _ (by simp only [size_alloc]; omega)]; simp [cell_alloc, Nat.add_assoc]
  · rw [hd _ _ (by simp only [size_alloc]; omega)]; simp [frozen_alloc, Nat.add_assoc]
  · rw [hd _ _ (by simp only [size_alloc]; omega)]; simp [frozen_alloc, Nat.add_assoc]

set_option maxHeartbeats 4000000 in
theorem scale_bad (l h c d : Int) (hok : Mig.okB l h c d = false) (w : World) :
    Calls Try.prog 11 #[.agg #[.int .i64 l, .int .i64 h], .int .i64 c, .int .i64 d] w
      fun e w' => e = .returned (.tuple #[.agg #[.int .i64 0, .int .i64 0], .int .i64 1]) ∧ Below w.heap.size w w' := by
  unfold Mig.okB at hok
  cases hu : Mig.usedB l h
  · clear hok
    go_enter Try.func11, Try.ntmps11
    go_wp2_with fail
    refine (isUsed_any _ _ _).mono ?_
    rintro e w1 ⟨rfl, hb⟩
    obtain ⟨⟨f1, f2⟩, ⟨f3, f4, f5, f6⟩, hz, hbw⟩ := mig_cells hb
    clear hb
    go_wp2
    refine bodyPost_ret (v := .tuple #[.agg #[.int .i64 0, .int .i64 0], .int .i64 1]) (by simp [results, Try.results11, go_sem, f3, f4]) rfl ⟨rfl, ?_⟩
    exact (hbw.setCell (by show w.heap.size ≤ w.heap.size + 1; omega) _).setCell (by show w.heap.size ≤ w.heap.size + 1; omega) _
  · rw [hu] at hok
    cases hl : Mig.limB c
    · clear hok
      go_enter Try.func11, Try.ntmps11
      go_wp2_with fail
      refine (isUsed_any _ _ _).mono ?_
      rintro e w1 ⟨rfl, hb⟩
      obtain ⟨⟨f1, f2⟩, ⟨f3, f4, f5, f6⟩, hz, hbw⟩ := mig_cells hb
      clear hb
      go_wp2_with fail
      refine (isLimit_any _ _).mono ?_
      rintro e w' ⟨rfl, rfl⟩
      go_wp2
      refine bodyPost_ret (v := .tuple #[.agg #[.int .i64 0, .int .i64 0], .int .i64 1]) (by simp [results, Try.results11, go_sem, f3, f4]) rfl ⟨rfl, ?_⟩
      exact (hbw.setCell (by show w.heap.size ≤ w.heap.size + 1; omega) _).setCell (by show w.heap.size ≤ w.heap.size + 1; omega) _
    · rw [hl] at hok
      have hd : Mig.limB d = false := by simpa using hok
      clear hok
      go_enter Try.func11, Try.ntmps11
      go_wp2_with fail
      refine (isUsed_any _ _ _).mono ?_
      rintro e w1 ⟨rfl, hb⟩
      obtain ⟨⟨f1, f2⟩, ⟨f3, f4, f5, f6⟩, hz, hbw⟩ := mig_cells hb
      clear hb
      go_wp2_with fail
      refine (isLimit_any _ _).mono ?_
      rintro e w' ⟨rfl, rfl⟩
      go_wp2_with fail
      refine (isLimit_any _ _).mono ?_
      rintro e w' ⟨rfl, rfl⟩
      go_wp2
      refine bodyPost_ret (v := .tuple #[.agg #[.int .i64 0, .int .i64 0], .int .i64 1]) (by simp [results, Try.results11, go_sem, f3, f4]) rfl ⟨rfl, ?_⟩
      exact (hbw.setCell (by show w.heap.size ≤ w.heap.size + 1; omega) _).setCell (by show w.heap.size ≤ w.heap.size + 1; omega) _

set_option maxHeartbeats 4000000 in
theorem scale_ok (l h c d : Int) (hok : Mig.okB l h c d = true) (w : World) :
    Calls Try.prog 11 #[.agg #[.int .i64 l, .int .i64 h], .int .i64 c, .int .i64 d] w
      fun e w' => e = .returned (.tuple #[.agg #[.int .i64 (Mig.lo l h c d), .int .i64 (Mig.hi l h c d)], .int .i64 (Mig.err l h c d)]) ∧ Below w.heap.size w w' := by
  have HC : Hid ((1000000000000 < Mig.up h c d ∧ Mig.err l h c d = 7 ∧ Mig.lo l h c d = 0 ∧ Mig.hi l h c d = 0) ∨ (Mig.up h c d ≤ 1000000000000 ∧ Mig.err l h c d = 0 ∧ Mig.lo l h c d = Mig.down l c d ∧ Mig.hi l h c d = Mig.up h c d)) := Lib.hid (by
    rcases Mig.err_cases l h c d with ⟨h0, _⟩ | h1 | h1
    · rw [hok] at h0; cases h0
    · exact Or.inl h1.2
    · exact Or.inr h1.2)
  obtain ⟨⟨a1, a2, a3⟩, ⟨b1, b2⟩, ⟨c1, c2⟩⟩ := Mig.ok_iff.1 hok
  have hu : Mig.usedB l h = true := Mig.used_iff.2 ⟨a1, a2, a3⟩
  have hl : Mig.limB c = true := Mig.lim_iff.2 ⟨b1, b2⟩
  have hd : Mig.limB d = true := Mig.lim_iff.2 ⟨c1, c2⟩
  have hdu := Mig.down_le_up a2 b1 c1
  have HD := Lib.hid (fun w => scaledDown_any l c d ⟨a1, by omega⟩ ⟨b1, b2⟩ ⟨c1, c2⟩ w)
  have HU := Lib.hid (fun w => scaledUp_any h c d ⟨by omega, a3⟩ ⟨b1, b2⟩ ⟨c1, c2⟩ w)
  clear hok
  by_cases hfit : Mig.up h c d ≤ 1000000000000
  · have Hr : Hid (Mig.lo l h c d = Mig.down l c d ∧ Mig.hi l h c d = Mig.up h c d ∧ Mig.err l h c d = 0) := Lib.hid (by have := HC.out; omega)
    have e1 : decide (Mig.up h c d ≤ 1000000000000) = true := by simp [hfit]
    have e2 : decide (Mig.down l c d ≤ 1000000000000) = true := by simp; omega
    have Hl : Hid (Mig.downV l c d = Mig.down l c d) := Lib.hid (by unfold Mig.downV; rw [if_pos (by omega)])
    have Hh : Hid (Mig.upV h c d = Mig.up h c d) := Lib.hid (by
      unfold Mig.upV; rw [if_pos]
      have := Mig.down_le_up (l := h) (h := h) (c := c) (d := d) (Int.le_refl _) b1 c1
      omega)
    rw [e2, Hl.out] at HD
    rw [e1, Hh.out] at HU
    obtain ⟨x, Hx⟩ : ∃ x, Hid (x = Mig.down l c d) := ⟨_, Lib.hid rfl⟩
    obtain ⟨y, Hy⟩ : ∃ x, Hid (x = Mig.up h c d) := ⟨_, Lib.hid rfl⟩
    rw [Hr.out.1, Hr.out.2.1, Hr.out.2.2, ← Hx.out, ← Hy.out]
    rw [← Hx.out] at HD
    rw [← Hy.out] at HU
    clear e1 e2 hfit hdu
    go_enter Try.func11, Try.ntmps11
    go_wp2_with fail
    refine (isUsed_any _ _ _).mono ?_
    rintro e w1 ⟨rfl, hb⟩
    obtain ⟨⟨f1, f2⟩, ⟨f3, f4, f5, f6⟩, hz, hbw⟩ := mig_cells hb
    clear hb
    go_wp2_with fail
    refine (isLimit_any _ _).mono ?_
    rintro e w' ⟨rfl, rfl⟩
    go_wp2_with fail
    refine (isLimit_any _ _).mono ?_
    rintro e w' ⟨rfl, rfl⟩
    go_wp2_with fail
    refine (HD.out _).mono ?_
    rintro e w2 ⟨rfl, hb⟩
    have g2 : w2.cell? ⟨w.heap.size, 1, none⟩ = some (.int .i64 h) := by rw [hb.cell (by show w.heap.size < _; omega), f2]
    have g3 : w2.cell? ⟨w.heap.size + 1, 0, none⟩ = some (.int .i64 0) := by rw [hb.cell (by show w.heap.size + 1 < _; omega), f3]
    have g4 : w2.cell? ⟨w.heap.size + 1, 1, none⟩ = some (.int .i64 0) := by rw [hb.cell (by show w.heap.size + 1 < _; omega), f4]
    have g5 : w2.frozen? ⟨w.heap.size + 1, 0, none⟩ = false := by rw [hb.frozen (by show w.heap.size + 1 < _; omega), f5]
    have g6 : w2.frozen? ⟨w.heap.size + 1, 1, none⟩ = false := by rw [hb.frozen (by show w.heap.size + 1 < _; omega), f6]
    replace hbw := hbw.trans (hb.mono hbw.size)
    replace hz := Nat.le_trans hz hb.size
    clear hb f1 f2 f3 f4 f5 f6
    go_wp2_with fail
    refine (HU.out _).mono ?_
    rintro e w3 ⟨rfl, hb⟩
    have f3 : w3.cell? ⟨w.heap.size + 1, 0, none⟩ = some (.int .i64 0) := by rw [hb.cell (by show w.heap.size + 1 < _; omega), g3]
    have f4 : w3.cell? ⟨w.heap.size + 1, 1, none⟩ = some (.int .i64 0) := by rw [hb.cell (by show w.heap.size + 1 < _; omega), g4]
    have f5 : w3.frozen? ⟨w.heap.size + 1, 0, none⟩ = false := by rw [hb.frozen (by show w.heap.size + 1 < _; omega), g5]
    have f6 : w3.frozen? ⟨w.heap.size + 1, 1, none⟩ = false := by rw [hb.frozen (by show w.heap.size + 1 < _; omega), g6]
    replace hbw := hbw.trans (hb.mono hbw.size)
    clear hb g2 g3 g4 g5 g6
    go_wp2
    refine bodyPost_ret (v := .tuple #[.agg #[.int .i64 x, .int .i64 y], .int .i64 0]) (by simp [results, Try.results11, go_sem, f3, f4]) rfl ⟨rfl, ?_⟩
    exact (hbw.setCell (by show w.heap.size ≤ w.heap.size + 1; omega) _).setCell (by show w.heap.size ≤ w.heap.size + 1; omega) _
  · have Hr : Hid (Mig.lo l h c d = 0 ∧ Mig.hi l h c d = 0 ∧ Mig.err l h c d = 7) := Lib.hid (by have := HC.out; omega)
    have e1 : decide (Mig.up h c d ≤ 1000000000000) = false := by simp; omega
    rw [e1] at HU
    rw [Hr.out.1, Hr.out.2.1, Hr.out.2.2]
    obtain ⟨x, Hx⟩ : ∃ x, Hid (x = Mig.downV l c d) := ⟨_, Lib.hid rfl⟩
    obtain ⟨y, Hy⟩ : ∃ x, Hid (x = Mig.upV h c d) := ⟨_, Lib.hid rfl⟩
    obtain ⟨bb, Hb⟩ : ∃ x, Hid (x = decide (Mig.down l c d ≤ 1000000000000)) := ⟨_, Lib.hid rfl⟩
    rw [← Hx.out, ← Hb.out] at HD
    rw [← Hy.out] at HU
    clear e1 hfit hdu
    cases bb
    all_goals
      go_enter Try.func11, Try.ntmps11
      go_wp2_with fail
      refine (isUsed_any _ _ _).mono ?_
      rintro e w1 ⟨rfl, hb⟩
      obtain ⟨⟨f1, f2⟩, ⟨f3, f4, f5, f6⟩, hz, hbw⟩ := mig_cells hb
      clear hb
      go_wp2_with fail
      refine (isLimit_any _ _).mono ?_
      rintro e w' ⟨rfl, rfl⟩
      go_wp2_with fail
      refine (isLimit_any _ _).mono ?_
      rintro e w' ⟨rfl, rfl⟩
      go_wp2_with fail
      refine (HD.out _).mono ?_
      rintro e w2 ⟨rfl, hb⟩
      have g2 : w2.cell? ⟨w.heap.size, 1, none⟩ = some (.int .i64 h) := by rw [hb.cell (by show w.heap.size < _; omega), f2]
      have g3 : w2.cell? ⟨w.heap.size + 1, 0, none⟩ = some (.int .i64 0) := by rw [hb.cell (by show w.heap.size + 1 < _; omega), f3]
      have g4 : w2.cell? ⟨w.heap.size + 1, 1, none⟩ = some (.int .i64 0) := by rw [hb.cell (by show w.heap.size + 1 < _; omega), f4]
      have g5 : w2.frozen? ⟨w.heap.size + 1, 0, none⟩ = false := by rw [hb.frozen (by show w.heap.size + 1 < _; omega), f5]
      have g6 : w2.frozen? ⟨w.heap.size + 1, 1, none⟩ = false := by rw [hb.frozen (by show w.heap.size + 1 < _; omega), f6]
      replace hbw := hbw.trans (hb.mono hbw.size)
      replace hz := Nat.le_trans hz hb.size
      clear hb f1 f2 f3 f4 f5 f6
      go_wp2_with fail
      refine (HU.out _).mono ?_
      rintro e w3 ⟨rfl, hb⟩
      have f3 : w3.cell? ⟨w.heap.size + 1, 0, none⟩ = some (.int .i64 0) := by rw [hb.cell (by show w.heap.size + 1 < _; omega), g3]
      have f4 : w3.cell? ⟨w.heap.size + 1, 1, none⟩ = some (.int .i64 0) := by rw [hb.cell (by show w.heap.size + 1 < _; omega), g4]
      have f5 : w3.frozen? ⟨w.heap.size + 1, 0, none⟩ = false := by rw [hb.frozen (by show w.heap.size + 1 < _; omega), g5]
      have f6 : w3.frozen? ⟨w.heap.size + 1, 1, none⟩ = false := by rw [hb.frozen (by show w.heap.size + 1 < _; omega), g6]
      replace hbw := hbw.trans (hb.mono hbw.size)
      clear hb g2 g3 g4 g5 g6
      go_wp2
      refine bodyPost_ret (v := .tuple #[.agg #[.int .i64 0, .int .i64 0], .int .i64 7]) (by simp [results, Try.results11, go_sem, f3, f4]) rfl ⟨rfl, ?_⟩
      exact (hbw.setCell (by show w.heap.size ≤ w.heap.size + 1; omega) _).setCell (by show w.heap.size ≤ w.heap.size + 1; omega) _

theorem scale_any (l h c d : Int) (w : World) :
    Calls Try.prog 11 #[.agg #[.int .i64 l, .int .i64 h], .int .i64 c, .int .i64 d] w
      fun e w' => e = .returned (.tuple #[.agg #[.int .i64 (Mig.lo l h c d), .int .i64 (Mig.hi l h c d)], .int .i64 (Mig.err l h c d)]) ∧ Below w.heap.size w w' := by
  cases hok : Mig.okB l h c d
  · have hc := Mig.err_cases l h c d
    rw [hok] at hc
    simp only [Bool.false_eq_true, false_and, or_false, true_and] at hc
    rw [hc.1, hc.2.1, hc.2.2]
    exact scale_bad l h c d hok w
  · exact scale_ok l h c d hok w

end Go.Proofs.Ytbiibpjjjjedgaa
