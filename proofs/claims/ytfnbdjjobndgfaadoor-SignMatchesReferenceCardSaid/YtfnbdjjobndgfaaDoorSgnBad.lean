/- The walk of sign.Verify on what is no seal. -/
import Derived.Test.YtfnbdjjobndgfaaDoorSgnVerify
namespace Go.Proofs.YtfnbdjjobndgfaaDoor
open Go.RowKit

set_option maxHeartbeats 1000000 in
theorem bad1 (pub msg : ByteArray) (idx : Int) (so po : Option Addr) (c1 c2 n p : Nat) (h : n ≠ 18) (_ : n ≤ 1000) (_ : p ≤ 1000) (w : World) :
    Calls Tryd.prog 18 #[.string pub, .string msg, .agg #[.int .i64 idx, .slice so n c1, .slice po p c2]] w fun e w' => e = .returned (.bool false) ∧ Below w.heap.size w w' := by
  have h1 : ¬ (n : Int) = 18 := by omega
  have h2 : decide ((n : Int) = 18) = false := decide_eq_false h1
  have h3 : ((n : Int) == 18) = false := by simp; omega
  go_enter Tryd.func18, Tryd.ntmps18
  go_wp2
  go_ret
  exact ⟨rfl, (Below.refl _ _).alloc (Nat.le_refl _) _⟩

set_option maxHeartbeats 1000000 in
theorem bad2 (pub msg : ByteArray) (idx : Int) (so po : Option Addr) (c1 c2 p : Nat) (h : 8 < p) (hp : p ≤ 1000) (w : World) :
    Calls Tryd.prog 18 #[.string pub, .string msg, .agg #[.int .i64 idx, .slice so 18 c1, .slice po p c2]] w fun e w' => e = .returned (.bool false) ∧ Below w.heap.size w w' := by
  have h2 : decide ((8 : Int) < p) = true := decide_eq_true (by omega)
  have h3 : decide (8 < p) = true := decide_eq_true (by omega)
  go_enter Tryd.func18, Tryd.ntmps18
  go_wp2
  go_ret
  exact ⟨rfl, (Below.refl _ _).alloc (Nat.le_refl _) _⟩

set_option maxHeartbeats 1000000 in
theorem bad3 (pub msg : ByteArray) (idx : Int) (so po : Option Addr) (c1 c2 p : Nat) (h : p ≤ 8) (w : World)
    (HA : Hid (∀ w', Below w.heap.size w w' → Calls Tryd.prog 38 #[.slice so 18 c1] w' fun e w2 => e = .returned (.bool false) ∧ w' = w2)) :
    Calls Tryd.prog 18 #[.string pub, .string msg, .agg #[.int .i64 idx, .slice so 18 c1, .slice po p c2]] w fun e w' => e = .returned (.bool false) ∧ Below w.heap.size w w' := by
  have h2 : decide ((8 : Int) < p) = false := decide_eq_false (by omega)
  have h3 : decide (8 < p) = false := decide_eq_false (by omega)
  go_enter Tryd.func18, Tryd.ntmps18
  go_wp2_with fail
  refine (HA.out _ ((Below.refl _ _).alloc (Nat.le_refl _) _)).mono ?_
  rintro e w1 ⟨rfl, rfl⟩
  go_wp2_with fail
  go_ret
  exact ⟨rfl, (Below.refl _ _).alloc (Nat.le_refl _) _⟩

set_option maxHeartbeats 1000000 in
theorem bad4 (pub msg : ByteArray) (idx : Int) (so po : Option Addr) (c1 c2 p : Nat) (h : p ≤ 8) (w : World)
    (HA : Hid (∀ w', Below w.heap.size w w' → Calls Tryd.prog 38 #[.slice so 18 c1] w' fun e w2 => e = .returned (.bool true) ∧ w' = w2))
    (HA2 : Hid (∀ w', Below w.heap.size w w' → Calls Tryd.prog 38 #[.slice po p c2] w' fun e w2 => e = .returned (.bool false) ∧ w' = w2)) :
    Calls Tryd.prog 18 #[.string pub, .string msg, .agg #[.int .i64 idx, .slice so 18 c1, .slice po p c2]] w fun e w' => e = .returned (.bool false) ∧ Below w.heap.size w w' := by
  have h2 : decide ((8 : Int) < p) = false := decide_eq_false (by omega)
  have h3 : decide (8 < p) = false := decide_eq_false (by omega)
  go_enter Tryd.func18, Tryd.ntmps18
  go_wp2_with fail
  refine (HA.out _ ((Below.refl _ _).alloc (Nat.le_refl _) _)).mono ?_
  rintro e w1 ⟨rfl, rfl⟩
  go_wp2_with fail
  refine (HA2.out _ ((Below.refl _ _).alloc (Nat.le_refl _) _)).mono ?_
  rintro e w1 ⟨rfl, rfl⟩
  go_wp2_with fail
  go_ret
  exact ⟨rfl, (Below.refl _ _).alloc (Nat.le_refl _) _⟩

set_option maxHeartbeats 1000000 in
theorem bad5 (pub msg : ByteArray) (idx : Int) (so po : Option Addr) (c1 c2 p : Nat) (h : p ≤ 8) (w : World) (hi : idx < 0 ∨ ((2 ^ p : Nat) : Int) ≤ idx)
    (HA : Hid (∀ w', Below w.heap.size w w' → Calls Tryd.prog 38 #[.slice so 18 c1] w' fun e w2 => e = .returned (.bool true) ∧ w' = w2))
    (HA2 : Hid (∀ w', Below w.heap.size w w' → Calls Tryd.prog 38 #[.slice po p c2] w' fun e w2 => e = .returned (.bool true) ∧ w' = w2)) :
    Calls Tryd.prog 18 #[.string pub, .string msg, .agg #[.int .i64 idx, .slice so 18 c1, .slice po p c2]] w fun e w' => e = .returned (.bool false) ∧ Below w.heap.size w w' := by
  have h2 : decide ((8 : Int) < p) = false := decide_eq_false (by omega)
  have h3 : decide (8 < p) = false := decide_eq_false (by omega)
  have hN : wrap64 ((2 : Int) ^ p) = ((2 ^ p : Nat) : Int) := wrap_pow p h
  obtain ⟨N, HN⟩ : ∃ N, Hid (N = 2 ^ p) := ⟨_, Lib.hid rfl⟩
  rw [← HN.out] at hN hi
  have hp8 : (p : Int) ≤ 8 := by omega
  have HH := Lib.hid hi
  by_cases h0 : idx < 0
  · have d0 : decide (idx < 0) = true := decide_eq_true h0
    clear hi h0
    go_enter Tryd.func18, Tryd.ntmps18
    go_wp2_with fail
    refine (HA.out _ ((Below.refl _ _).alloc (Nat.le_refl _) _)).mono ?_
    rintro e w1 ⟨rfl, rfl⟩
    go_wp2_with fail
    refine (HA2.out _ ((Below.refl _ _).alloc (Nat.le_refl _) _)).mono ?_
    rintro e w1 ⟨rfl, rfl⟩
    go_wp2_with fail
    go_quiet (fail)
    go_wp2
    go_ret
    exact ⟨rfl, below_drewN ((Below.refl _ _).alloc (Nat.le_refl _) _) _⟩
  · have d0 : decide (idx < 0) = false := decide_eq_false h0
    have d1 : decide ((N : Int) ≤ idx) = true := decide_eq_true (by omega)
    clear hi h0
    go_enter Tryd.func18, Tryd.ntmps18
    go_wp2_with fail
    refine (HA.out _ ((Below.refl _ _).alloc (Nat.le_refl _) _)).mono ?_
    rintro e w1 ⟨rfl, rfl⟩
    go_wp2_with fail
    refine (HA2.out _ ((Below.refl _ _).alloc (Nat.le_refl _) _)).mono ?_
    rintro e w1 ⟨rfl, rfl⟩
    go_wp2_with fail
    go_quiet (fail)
    go_wp2
    go_ret
    exact ⟨rfl, below_drewN ((Below.refl _ _).alloc (Nat.le_refl _) _) _⟩

theorem verify_any (pub msg : ByteArray) (hm : msg.size ≤ 140737488351232) (idx : Int) (so po : Option Addr) (c1 c2 : Nat) (sig path : List ByteArray) (hn : sig.length ≤ 1000) (hp : path.length ≤ 1000)
    (hz1 : ∀ s ∈ sig, s.size ≤ 140737488351232) (hz2 : ∀ s ∈ path, s.size ≤ 140737488351232) (w : World) (ht : Tab w) (hsg : IsStrs w so sig) (hpt : IsStrs w po path) :
    Calls Tryd.prog 18 #[.string pub, .string msg, .agg #[.int .i64 idx, .slice so sig.length c1, .slice po path.length c2]] w
      fun e w' => e = .returned (.bool (Sgn.verifyB pub msg idx sig path)) ∧ Below w.heap.size w w' := by
  have off : Sgn.formB idx sig path = false → Sgn.verifyB pub msg idx sig path = false := fun h => by unfold Sgn.verifyB; rw [h]; rfl
  by_cases h18 : sig.length = 18
  · rw [h18]
    by_cases h8 : path.length ≤ 8
    · have HA : ∀ b, (sig.all fun s => Dig.isB s.data.toList) = b → Hid (∀ w', Below w.heap.size w w' → Calls Tryd.prog 38 #[.slice so 18 c1] w' fun e w2 => e = .returned (.bool b) ∧ w' = w2) := fun b hb => Lib.hid fun w' hbw => by
        have := areDigests_any so sig c1 (by omega) hz1 w' (hsg.below hbw)
        rw [hb, h18] at this
        exact this
      have HA2 : ∀ b, (path.all fun s => Dig.isB s.data.toList) = b → Hid (∀ w', Below w.heap.size w w' → Calls Tryd.prog 38 #[.slice po path.length c2] w' fun e w2 => e = .returned (.bool b) ∧ w' = w2) := fun b hb => Lib.hid fun w' hbw => by
        have := areDigests_any po path c2 (by omega) hz2 w' (hpt.below hbw)
        rw [hb] at this
        exact this
      cases h3 : (sig.all fun s => Dig.isB s.data.toList) with
      | false =>
        rw [off (by unfold Sgn.formB; rw [h3]; simp)]
        exact bad3 pub msg idx so po c1 c2 path.length h8 w (HA _ h3)
      | true =>
        cases h4 : (path.all fun s => Dig.isB s.data.toList) with
        | false =>
          rw [off (by unfold Sgn.formB; rw [h4]; simp)]
          exact bad4 pub msg idx so po c1 c2 path.length h8 w (HA _ h3) (HA2 _ h4)
        | true =>
          by_cases hi : idx < 0 ∨ ((2 ^ path.length : Nat) : Int) ≤ idx
          · rw [off (by
              unfold Sgn.formB
              rcases hi with hi | hi
              · rw [decide_eq_false (show ¬ 0 ≤ idx by omega)]; simp
              · rw [decide_eq_false (show ¬ idx < ((2 ^ path.length : Nat) : Int) by omega)]; simp)]
            exact bad5 pub msg idx so po c1 c2 path.length h8 w hi (HA _ h3) (HA2 _ h4)
          · obtain ⟨j, rfl⟩ : ∃ j : Nat, idx = j := ⟨idx.toNat, by omega⟩
            have hj : j < 2 ^ path.length := by omega
            have hf : Sgn.formB (j : Int) sig path = true := by
              unfold Sgn.formB
              rw [h3, h4, decide_eq_true h18, decide_eq_true h8, decide_eq_true (show (0 : Int) ≤ j by omega), decide_eq_true (show (j : Int) < ((2 ^ path.length : Nat) : Int) by omega)]
              rfl
            have e : Sgn.verifyB pub msg (j : Int) sig path = decide (Sgn.rootOf msg j sig path = pub) := by
              unfold Sgn.verifyB
              rw [hf, Bool.true_and, Int.toNat_natCast]
            rw [e]
            exact callsIn_wide.1 (verify_good pub msg hm j so po c1 c2 sig path h18 h8 h3 h4 hj w ht hsg hpt)
    · rw [off (by unfold Sgn.formB; rw [decide_eq_false h8]; simp)]
      exact bad2 pub msg idx so po c1 c2 path.length (by omega) hp w
  · rw [off (by unfold Sgn.formB; rw [decide_eq_false h18]; simp)]
    exact bad1 pub msg idx so po c1 c2 sig.length path.length h18 hn hp w

end Go.Proofs.YtfnbdjjobndgfaaDoor
