/- The statement on percentages: the walk of its main way. -/
import Derived.Test.YtbiibpjjjjedgaaDoorMonHead
namespace Go.Proofs.YtbiibpjjjjedgaaDoor
open Go.RowKit

/-- Hundredths, rounded half to even. -/
def Mon.half (x : Int) : Int := if x % 100 > 50 ∨ x % 100 = 50 ∧ x / 100 % 2 = 1 then x / 100 + 1 else x / 100
theorem Mon.pct_half (n p : Int) : Mon.pct n p = Mon.half (n * p) := rfl
theorem Mon.half_near (x : Int) : -50 ≤ 100 * Mon.half x - x ∧ 100 * Mon.half x - x ≤ 50 := by unfold Mon.half; split <;> omega
theorem Mon.half_mono {x y : Int} (h : x ≤ y) : Mon.half x ≤ Mon.half y := by unfold Mon.half; split <;> split <;> omega
theorem Mon.half_whole (n : Int) : Mon.half (n * 100) = n := by unfold Mon.half; rw [if_neg (by omega)]; omega

theorem Mon.cmp_cases (a b o n : Int) (h1 : o ≤ n → b ≤ a) (h2 : n ≤ o → a ≤ b) (i : Int) (hi : i = 0 ∨ i = 1) :
    i = 1 ∨ (i = 0 ∧ n ≤ o ∧ ¬ o ≤ n ∧ a ≤ b) ∨ (i = 0 ∧ n ≤ o ∧ o ≤ n) ∨ (i = 0 ∧ ¬ n ≤ o ∧ o ≤ n ∧ b ≤ a) := by omega

set_option maxRecDepth 100000 in
set_option maxHeartbeats 8000000 in
theorem lawPercents_main (n o p m a r b c i j : Int) (hn : 0 ≤ n ∧ n ≤ 1000000000000) (hp : 0 ≤ p ∧ p ≤ 100) (x : Int) (hx : n * p = x) (hx2 : 0 ≤ x ∧ x ≤ 100000000000000) (w : World)
    (HH : Hid (Calls Tryd.prog 8 #[] w fun e w' => e = .returned (.bool true) ∧ Below w.heap.size w w'))
    (HP : Hid (∀ W, Calls Tryd.prog 11 #[.int .i64 n, .int .i64 p] W fun e w' => e = .returned (.tuple #[.int .i64 a, .int .i64 0]) ∧ W = w'))
    (HR : Hid (∀ W, Calls Tryd.prog 11 #[.int .i64 n, .int .i64 (100 - p)] W fun e w' => e = .returned (.tuple #[.int .i64 r, .int .i64 0]) ∧ W = w'))
    (HN : Hid (∀ W, Calls Tryd.prog 11 #[.int .i64 n, .int .i64 0] W fun e w' => e = .returned (.tuple #[.int .i64 0, .int .i64 0]) ∧ W = w'))
    (HA : Hid (∀ W, Calls Tryd.prog 11 #[.int .i64 n, .int .i64 100] W fun e w' => e = .returned (.tuple #[.int .i64 n, .int .i64 0]) ∧ W = w'))
    (HB : Hid (∀ W, Calls Tryd.prog 11 #[.int .i64 o, .int .i64 p] W fun e w' => e = .returned (.tuple #[.int .i64 b, .int .i64 i]) ∧ W = w'))
    (HC : Hid (∀ W, Calls Tryd.prog 11 #[.int .i64 n, .int .i64 m] W fun e w' => e = .returned (.tuple #[.int .i64 c, .int .i64 j]) ∧ W = w'))
    (hd : -50 ≤ 100 * a - x ∧ 100 * a - x ≤ 50) (hr : n - 1 ≤ a + r ∧ a + r ≤ n + 1) (ha0 : 0 ≤ a ∧ a ≤ n) (hr0 : 0 ≤ r ∧ r ≤ n)
    (hcb : i = 1 ∨ (i = 0 ∧ n ≤ o ∧ ¬ o ≤ n ∧ a ≤ b) ∨ (i = 0 ∧ n ≤ o ∧ o ≤ n) ∨ (i = 0 ∧ ¬ n ≤ o ∧ o ≤ n ∧ b ≤ a))
    (hcc : j = 1 ∨ (j = 0 ∧ p ≤ m ∧ ¬ m ≤ p ∧ a ≤ c) ∨ (j = 0 ∧ p ≤ m ∧ m ≤ p) ∨ (j = 0 ∧ ¬ p ≤ m ∧ m ≤ p ∧ c ≤ a)) :
    Calls Tryd.prog 6 #[.int .i64 n, .int .i64 o, .int .i64 p, .int .i64 m] w fun e w' => e = .returned (.bool true) ∧ Below w.heap.size w w' := by
  obtain ⟨n1, n2⟩ := hn
  obtain ⟨p1, p2⟩ := hp
  obtain ⟨x1, x2⟩ := hx2
  obtain ⟨d1, d2⟩ := hd
  obtain ⟨r1, r2⟩ := hr
  obtain ⟨a1, a2⟩ := ha0
  obtain ⟨r3, r4⟩ := hr0
  have KB := Lib.hid hcb
  have KC := Lib.hid hcc
  clear hcb hcc
  have e1 : IntKind.i64.wrap (100 * a) = 100 * a := by rw [IntKind.wrap_i64]; omega
  have e2 : IntKind.i64.wrap (n * p) = x := by rw [hx, IntKind.wrap_i64]; omega
  have e3 : IntKind.i64.wrap (100 * a - x) = 100 * a - x := by rw [IntKind.wrap_i64]; omega
  have e4 : IntKind.i64.wrap (100 - p) = 100 - p := by rw [IntKind.wrap_i64]; omega
  have e5 : IntKind.i64.wrap (a + r) = a + r := by rw [IntKind.wrap_i64]; omega
  have e6 : IntKind.i64.wrap (n + 1) = n + 1 := by rw [IntKind.wrap_i64]; omega
  have e7 : IntKind.i64.wrap (n - 1) = n - 1 := by rw [IntKind.wrap_i64]; omega
  have f1 : ¬ (50 : Int) < 100 * a - x := by omega
  have f2 : ¬ 100 * a - x < (-50 : Int) := by omega
  have f3 : ¬ n + 1 < a + r := by omega
  have f4 : ¬ a + r < n - 1 := by omega
  clear hx
  go_enter Tryd.func6, Tryd.ntmps6
  go_wp2_with fail
  refine HH.out.mono ?_
  rintro e v1 ⟨rfl, hb⟩
  have HBw := Lib.hid hb
  clear hb
  go_wp2_with fail
  refine (HP.out _).mono ?_
  rintro e _ ⟨rfl, rfl⟩
  go_wp2_with fail
  refine (HR.out _).mono ?_
  rintro e _ ⟨rfl, rfl⟩
  go_wp2_with fail
  refine (HN.out _).mono ?_
  rintro e _ ⟨rfl, rfl⟩
  go_wp2_with fail
  refine (HA.out _).mono ?_
  rintro e _ ⟨rfl, rfl⟩
  go_wp2_with fail
  refine (HB.out _).mono ?_
  rintro e _ ⟨rfl, rfl⟩
  go_wp2_with fail
  refine (HC.out _).mono ?_
  rintro e _ ⟨rfl, rfl⟩
  clear d1 d2 r1 r2 e1 e2 e3 e4 e5 e6 e7 f1 f2 f3 f4 x1 x2 a1 a2 r3 r4
  rcases KB.out with rfl | ⟨rfl, b1, b2, b3⟩ | ⟨rfl, b1, b2⟩ | ⟨rfl, b1, b2, b3⟩
  all_goals rcases KC.out with rfl | ⟨rfl, c1, c2, c3⟩ | ⟨rfl, c1, c2⟩ | ⟨rfl, c1, c2, c3⟩
  all_goals
    go_wp2
    go_ret
    exact ⟨rfl, HBw.out⟩

end Go.Proofs.YtbiibpjjjjedgaaDoor
