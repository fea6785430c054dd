/- The statement on three-valued logic: its walk. -/
import Derived.Test.YtkbomnipidmopaaIvlHead
namespace Go.Proofs.Ytkbomnipidmopaa
open Go.RowKit

namespace Ivl
theorem beq_of {x y : Int} (h : x = y) : (x == y) = true := by rw [h]; exact beq_self_eq_true y
theorem known_known (a : Int) : known (known a) = known a := by
  have h1 := known_cases a
  have h2 := known_cases (known a)
  omega
theorem andT_cases (a b : Int) : (known b < known a ∧ andT a b = known b) ∨ (known a ≤ known b ∧ andT a b = known a) := by
  unfold andT; exact imin_cases _ _
theorem orT_cases (a b : Int) : (known a < known b ∧ orT a b = known b) ∨ (known b ≤ known a ∧ orT a b = known a) := by
  unfold orT; exact imax_cases _ _
theorem known_andT (a b : Int) : known (andT a b) = andT a b := by
  rcases andT_cases a b with ⟨_, e⟩ | ⟨_, e⟩ <;> rw [e, known_known]
theorem known_orT (a b : Int) : known (orT a b) = orT a b := by
  rcases orT_cases a b with ⟨_, e⟩ | ⟨_, e⟩ <;> rw [e, known_known]
theorem known_notT (a : Int) : known (notT a) = notT a := by
  have h1 := known_cases a
  have h2 := known_cases (notT a)
  unfold notT at *
  omega
end Ivl

set_option maxRecDepth 100000 in
set_option maxHeartbeats 4000000 in
theorem logic_any (a b c : Int) (w : World) :
    Calls Try.prog 9 #[.int .i64 a, .int .i64 b, .int .i64 c] w fun e w' => e = .returned (.bool true) ∧ Below w.heap.size w w' := by
  have ka := Ivl.known_cases a
  have kb := Ivl.known_cases b
  have kc := Ivl.known_cases c
  have ab := Ivl.andT_cases a b
  have ba := Ivl.andT_cases b a
  have bc := Ivl.andT_cases b c
  have oab := Ivl.orT_cases a b
  have oba := Ivl.orT_cases b a
  have obc := Ivl.orT_cases b c
  have oaa := Ivl.orT_cases a a
  have f1 : (Ivl.andT a b == Ivl.andT b a) = true := Ivl.beq_of (by omega)
  have f2 : (Ivl.orT a b == Ivl.orT b a) = true := Ivl.beq_of (by omega)
  have f3 : (Ivl.andT (Ivl.andT a b) c == Ivl.andT a (Ivl.andT b c)) = true := by
    have h1 := Ivl.andT_cases (Ivl.andT a b) c
    have h2 := Ivl.andT_cases a (Ivl.andT b c)
    rw [Ivl.known_andT] at h1 h2
    exact Ivl.beq_of (by omega)
  have f4 : (Ivl.orT (Ivl.orT a b) c == Ivl.orT a (Ivl.orT b c)) = true := by
    have h1 := Ivl.orT_cases (Ivl.orT a b) c
    have h2 := Ivl.orT_cases a (Ivl.orT b c)
    rw [Ivl.known_orT] at h1 h2
    exact Ivl.beq_of (by omega)
  have f5 : (Ivl.orT a (Ivl.andT a b) == Ivl.orT a a) = true := by
    have h1 := Ivl.orT_cases a (Ivl.andT a b)
    rw [Ivl.known_andT] at h1
    exact Ivl.beq_of (by omega)
  have f6 : (Ivl.andT a (Ivl.orT a b) == Ivl.orT a a) = true := by
    have h1 := Ivl.andT_cases a (Ivl.orT a b)
    rw [Ivl.known_orT] at h1
    exact Ivl.beq_of (by omega)
  have n1 : Ivl.notT (Ivl.andT a b) = 2 - Ivl.andT a b := by unfold Ivl.notT; rw [Ivl.known_andT]
  have n2 : Ivl.notT (Ivl.orT a b) = 2 - Ivl.orT a b := by unfold Ivl.notT; rw [Ivl.known_orT]
  have n3 : Ivl.notT a = 2 - Ivl.known a := rfl
  have n4 : Ivl.notT b = 2 - Ivl.known b := rfl
  have f7 : (Ivl.notT (Ivl.andT a b) == Ivl.orT (Ivl.notT a) (Ivl.notT b)) = true := by
    have h1 := Ivl.orT_cases (Ivl.notT a) (Ivl.notT b)
    rw [Ivl.known_notT, Ivl.known_notT] at h1
    exact Ivl.beq_of (by omega)
  have f8 : (Ivl.notT (Ivl.orT a b) == Ivl.andT (Ivl.notT a) (Ivl.notT b)) = true := by
    have h1 := Ivl.andT_cases (Ivl.notT a) (Ivl.notT b)
    rw [Ivl.known_notT, Ivl.known_notT] at h1
    exact Ivl.beq_of (by omega)
  have f9 : (Ivl.notT (Ivl.notT a) == Ivl.orT a a) = true := by
    have h1 : Ivl.notT (Ivl.notT a) = 2 - Ivl.known (Ivl.notT a) := rfl
    rw [Ivl.known_notT] at h1
    exact Ivl.beq_of (by omega)
  have f10 : Ivl.andT a b ≤ Ivl.orT a b := by omega
  have f11 : 0 ≤ Ivl.orT a a := by omega
  have f12 : Ivl.orT a a ≤ 2 := by omega
  have g2 : (a != 2) = false → (Ivl.orT a a == 2) = true := by
    intro h
    have h : a = 2 := by simpa using h
    exact Ivl.beq_of (by omega)
  have g0 : (a != 0) = false → (Ivl.orT a a == 0) = true := by
    intro h
    have h : a = 0 := by simpa using h
    exact Ivl.beq_of (by omega)
  clear ka kb kc ab ba bc oab oba obc oaa n1 n2 n3 n4
  go_enter Try.func9, Try.ntmps9
  go_wp2_with fail
  refine (head_any _).mono ?_
  rintro e w1 ⟨rfl, hb⟩
  go_wp2_with (first
    | (go_at_call 25; refine (and_any _ _ _).mono ?_; rintro e w' ⟨rfl, rfl⟩)
    | (go_at_call 27; refine (or_any _ _ _).mono ?_; rintro e w' ⟨rfl, rfl⟩)
    | (go_at_call 23; refine (not_any _ _).mono ?_; rintro e w' ⟨rfl, rfl⟩))
  go_ways
  all_goals
    go_ret
    exact ⟨rfl, hb⟩

end Go.Proofs.Ytkbomnipidmopaa
