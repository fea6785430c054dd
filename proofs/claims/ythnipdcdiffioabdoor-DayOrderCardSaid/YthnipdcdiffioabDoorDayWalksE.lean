/- The walk of Months. -/
import Derived.Test.YthnipdcdiffioabDoorDayWalksD
namespace Go.Proofs.YthnipdcdiffioabDoor
open Go.RowKit

set_option maxHeartbeats 1000000 in
theorem months_bad (n c : Int) (h : ¬ (0 ≤ n ∧ n ≤ 40000) ∨ c < -12000 ∨ 12000 < c) (w : World) :
    Calls Tryd.prog 17 #[.int .i64 n, .int .i64 c] w fun e w' => e = .returned (.tuple #[.int .i64 0, .int .i64 13]) ∧ w = w' := by
  by_cases hn : 0 ≤ n ∧ n ≤ 40000
  · have Hd : Hid (Calls Tryd.prog 25 #[.int .i64 n] w fun e w' => e = .returned (.bool true) ∧ w = w') := by
      refine Lib.hid (isDay_val n true ?_ w)
      rw [decide_eq_true hn.1, decide_eq_true hn.2]; rfl
    by_cases h1 : c < -12000
    · clear h hn
      go_enter Tryd.func17, Tryd.ntmps17
      go_wp2_with fail
      refine Hd.out.mono ?_
      rintro e _ ⟨rfl, rfl⟩
      go_wp2
      go_ret2
      exact ⟨rfl, rfl⟩
    · have h2 : 12000 < c := by omega
      clear h hn
      go_enter Tryd.func17, Tryd.ntmps17
      go_wp2_with fail
      refine Hd.out.mono ?_
      rintro e _ ⟨rfl, rfl⟩
      go_wp2
      go_ret2
      exact ⟨rfl, rfl⟩
  · have Hd : Hid (Calls Tryd.prog 25 #[.int .i64 n] w fun e w' => e = .returned (.bool false) ∧ w = w') := by
      refine Lib.hid (isDay_val n false ?_ w)
      rw [Bool.and_eq_false_iff]
      by_cases h0 : 0 ≤ n
      · exact Or.inr (decide_eq_false (by omega))
      · exact Or.inl (decide_eq_false h0)
    clear h hn
    go_enter Tryd.func17, Tryd.ntmps17
    go_wp2_with fail
    refine Hd.out.mono ?_
    rintro e _ ⟨rfl, rfl⟩
    go_wp2
    go_ret2
    exact ⟨rfl, rfl⟩

def monY (K : Nat) (c : Int) : Int := (24000 + (K : Int) + c) / 12
def monM (K : Nat) (c : Int) : Int := (24000 + (K : Int) + c) % 12 + 1
def monD (n : Int) (K : Nat) (c : Int) : Int := if Cal.mlen (monY K c) (monM K c) < n - Cal.cum K + 1 then Cal.mlen (monY K c) (monM K c) else n - Cal.cum K + 1

set_option maxHeartbeats 4000000 in
theorem months_good (n c : Int) (K : Nat) (hK : K ≤ 1320) (h1 : Cal.cum K ≤ n) (h2 : n < Cal.cum (K + 1)) (h : 0 ≤ n ∧ n ≤ 40000) (hc1 : -12000 ≤ c) (hc2 : c ≤ 12000) (w : World) (hT : MTab w) :
    Calls Tryd.prog 17 #[.int .i64 n, .int .i64 c] w fun e w' => e = .returned (.tuple #[.int .i64 (if numE (monY K c) (monM K c) (monD n K c) = 0 then numV (monY K c) (monM K c) (monD n K c) else 0), .int .i64 (numE (monY K c) (monM K c) (monD n K c))]) ∧ Below w.heap.size w w' := by
  have Hd : Hid (Calls Tryd.prog 25 #[.int .i64 n] w fun e w' => e = .returned (.bool true) ∧ w = w') := by
    refine Lib.hid (isDay_val n true ?_ w)
    rw [decide_eq_true h.1, decide_eq_true h.2]; rfl
  obtain ⟨y, Hy⟩ : ∃ a, Hid (a = Cal.yr K) := ⟨_, Lib.hid rfl⟩
  obtain ⟨m, Hm⟩ : ∃ a, Hid (a = Cal.mo K) := ⟨_, Lib.hid rfl⟩
  obtain ⟨d, Hdd⟩ : ∃ a, Hid (a = n - Cal.cum K + 1) := ⟨_, Lib.hid rfl⟩
  have HD : Hid (Calls Tryd.prog 26 #[.int .i64 n] w fun e w' => e = .returned (.agg #[.int .i64 y, .int .i64 m, .int .i64 d]) ∧ Below w.heap.size w w') := by
    rw [Hy.out, Hm.out, Hdd.out]; exact Lib.hid (dateOf_any n K hK h1 h2 w hT)
  obtain ⟨A, HA⟩ : ∃ a, Hid (a = 24000 + (K : Int) + c) := ⟨_, Lib.hid rfl⟩
  have hA : 12 * y + m - 1 + c = A := by rw [Hy.out, Hm.out, HA.out]; unfold Cal.yr Cal.mo; omega
  have a0 : 12000 ≤ A := by rw [HA.out]; omega
  have a1 : A ≤ 40000 := by rw [HA.out]; omega
  have y0 : 2000 ≤ y := by rw [Hy.out]; unfold Cal.yr; omega
  have y1 : y ≤ 2110 := by rw [Hy.out]; unfold Cal.yr; omega
  have m0 : 1 ≤ m := by rw [Hm.out]; exact (Cal.mo_bd K).1
  have m1 : m ≤ 12 := by rw [Hm.out]; exact (Cal.mo_bd K).2
  obtain ⟨Y, HY⟩ : ∃ a, Hid (a = monY K c) := ⟨_, Lib.hid rfl⟩
  obtain ⟨M, HM⟩ : ∃ a, Hid (a = monM K c) := ⟨_, Lib.hid rfl⟩
  have eY : A / 12 = Y := by rw [HY.out, HA.out]; rfl
  have eM : A % 12 + 1 = M := by rw [HM.out, HA.out]; rfl
  obtain ⟨l, Hl⟩ : ∃ l, Hid (l = Cal.mlen Y M) := ⟨_, Lib.hid rfl⟩
  have HL : Hid (∀ W, MTab W → Calls Tryd.prog 22 #[.int .i64 Y, .int .i64 M] W fun e w' => e = .returned (.int .i64 l) ∧ W = w') := Lib.hid fun W hW => by rw [Hl.out]; exact length_any Y M (by omega) (by omega) W hW
  obtain ⟨D, HDm⟩ : ∃ l, Hid (l = monD n K c) := ⟨_, Lib.hid rfl⟩
  have eD : min d l = D := by rw [HDm.out, Hdd.out, Hl.out, HY.out, HM.out]; unfold monD; split <;> omega
  have HN : Hid (∀ W, MTab W → Calls Tryd.prog 11 #[.int .i64 Y, .int .i64 M, .int .i64 D] W fun e w' => e = .returned (.tuple #[.int .i64 (if numE Y M D = 0 then numV Y M D else 0), .int .i64 (numE Y M D)]) ∧ Below W.heap.size W w') := Lib.hid fun W hW => number_any Y M D W hW
  obtain ⟨r, Hr⟩ : ∃ r, Hid (r = if numE Y M D = 0 then numV Y M D else 0) := ⟨_, Lib.hid rfl⟩
  obtain ⟨s, Hs⟩ : ∃ r, Hid (r = numE Y M D) := ⟨_, Lib.hid rfl⟩
  rw [← HY.out, ← HM.out, ← HDm.out, ← Hr.out, ← Hs.out]
  rw [← Hr.out, ← Hs.out] at HN
  have HT := Lib.hid hT
  clear hT h h1 h2 hK
  go_enter Tryd.func17, Tryd.ntmps17
  go_wp2_with fail
  refine Hd.out.mono ?_
  rintro e _ ⟨rfl, rfl⟩
  go_wp2_with fail
  refine HD.out.mono ?_
  rintro e w1 ⟨rfl, hb⟩
  go_wp2_with fail
  obtain ⟨W, HW⟩ : ∃ W, Hid (W = w1.alloc (.cells #[.int .i64 Y, .int .i64 M, .int .i64 d] 46)) := ⟨_, Lib.hid rfl⟩
  have q0 : W.cell? ⟨w1.heap.size, 0, none⟩ = some (.int .i64 Y) := by rw [HW.out]; simp [cell_alloc]
  have q1 : W.cell? ⟨w1.heap.size, 1, none⟩ = some (.int .i64 M) := by rw [HW.out]; simp [cell_alloc]
  have q2 : W.cell? ⟨w1.heap.size, 2, none⟩ = some (.int .i64 d) := by rw [HW.out]; simp [cell_alloc]
  have p2 : W.frozen? ⟨w1.heap.size, 2, none⟩ = false := by rw [HW.out]; simp [frozen_alloc]
  have hbW : Below w.heap.size w W := by rw [HW.out]; exact hb.alloc hb.size _
  have hle : w.heap.size ≤ w1.heap.size := hb.size
  have HTW : Hid (MTab W) := Lib.hid (HT.out.below hbW)
  rw [← HW.out]
  clear hb
  go_still_tail 9, (by kernel_rfl)
  repeat still_step
  still_call (still_of (HL.out _ (HTW.out.below (Below.refl _ _).drew)))
  repeat still_step
  refine wpStill_nil ?_
  go_wp2_with fail
  refine (HN.out _ (HT.out.below ((hbW.setCell (p := ⟨w1.heap.size, 2, none⟩) hle _).drew))).mono ?_
  rintro e w2 ⟨rfl, hbn⟩
  go_wp2
  go_ret2
  exact ⟨rfl, ((hbW.setCell (p := ⟨w1.heap.size, 2, none⟩) hle _).drew).trans (hbn.mono (by simp; exact hbW.size))⟩

end Go.Proofs.YthnipdcdiffioabDoor
