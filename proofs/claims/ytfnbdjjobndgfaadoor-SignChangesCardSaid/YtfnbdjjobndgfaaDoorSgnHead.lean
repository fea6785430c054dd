/- The walk of sign.Verify on what is no seal. -/
import Derived.Test.YtfnbdjjobndgfaaDoorSgnVerify
import Derived.Test.YtfnbdjjobndgfaaDoorSgnTree
import Derived.Test.YtfnbdjjobndgfaaDoorSgnWalksA
import Derived.Test.YtfnbdjjobndgfaaDoorSgSameRef
import Derived.Test.YtfnbdjjobndgfaaDoorSgnMath
namespace Go.Proofs.YtfnbdjjobndgfaaDoor
open Go.RowKit

set_option maxHeartbeats 1000000 in
theorem bad1 (pub msg : ByteArray) (idx : Int) (so po : Option Addr) (c1 c2 n p : Nat) (h : n ≠ 18) (_ : n ≤ 1000) (_ : p ≤ 1000) (w : World) :
    Calls Tryd.prog 18 #[.string pub, .string msg, .agg #[.int .i64 idx, .slice so n c1, .slice po p c2]] w fun e w' => e = .returned (.bool false) ∧ Below w.heap.size w w' := by
  have h1 : ¬ (n : Int) = 18 := by omega
  have h2 : decide ((n : Int) = 18) = false := decide_eq_false h1
  have h3 : ((n : Int) == 18) = false := by simp; omega
  go_enter Tryd.func18, Tryd.ntmps18
  go_wp2
  go_ret
  exact ⟨rfl, (Below.refl _ _).alloc (Nat.le_refl _) _⟩

set_option maxHeartbeats 1000000 in
theorem bad2 (pub msg : ByteArray) (idx : Int) (so po : Option Addr) (c1 c2 p : Nat) (h : 8 < p) (hp : p ≤ 1000) (w : World) :
    Calls Tryd.prog 18 #[.string pub, .string msg, .agg #[.int .i64 idx, .slice so 18 c1, .slice po p c2]] w fun e w' => e = .returned (.bool false) ∧ Below w.heap.size w w' := by
  have h2 : decide ((8 : Int) < p) = true := decide_eq_true (by omega)
  have h3 : decide (8 < p) = true := decide_eq_true (by omega)
  go_enter Tryd.func18, Tryd.ntmps18
  go_wp2
  go_ret
  exact ⟨rfl, (Below.refl _ _).alloc (Nat.le_refl _) _⟩

set_option maxHeartbeats 1000000 in
theorem bad3 (pub msg : ByteArray) (idx : Int) (so po : Option Addr) (c1 c2 p : Nat) (h : p ≤ 8) (w : World)
    (HA : Hid (∀ w', Below w.heap.size w w' → Calls Tryd.prog 38 #[.slice so 18 c1] w' fun e w2 => e = .returned (.bool false) ∧ w' = w2)) :
    Calls Tryd.prog 18 #[.string pub, .string msg, .agg #[.int .i64 idx, .slice so 18 c1, .slice po p c2]] w fun e w' => e = .returned (.bool false) ∧ Below w.heap.size w w' := by
  have h2 : decide ((8 : Int) < p) = false := decide_eq_false (by omega)
  have h3 : decide (8 < p) = false := decide_eq_false (by omega)
  go_enter Tryd.func18, Tryd.ntmps18
  go_wp2_with fail
  refine (HA.out _ ((Below.refl _ _).alloc (Nat.le_refl _) _)).mono ?_
  rintro e w1 ⟨rfl, rfl⟩
  go_wp2_with fail
  go_ret
  exact ⟨rfl, (Below.refl _ _).alloc (Nat.le_refl _) _⟩

set_option maxHeartbeats 1000000 in
theorem bad4 (pub msg : ByteArray) (idx : Int) (so po : Option Addr) (c1 c2 p : Nat) (h : p ≤ 8) (w : World)
    (HA : Hid (∀ w', Below w.heap.size w w' → Calls Tryd.prog 38 #[.slice so 18 c1] w' fun e w2 => e = .returned (.bool true) ∧ w' = w2))
    (HA2 : Hid (∀ w', Below w.heap.size w w' → Calls Tryd.prog 38 #[.slice po p c2] w' fun e w2 => e = .returned (.bool false) ∧ w' = w2)) :
    Calls Tryd.prog 18 #[.string pub, .string msg, .agg #[.int .i64 idx, .slice so 18 c1, .slice po p c2]] w fun e w' => e = .returned (.bool false) ∧ Below w.heap.size w w' := by
  have h2 : decide ((8 : Int) < p) = false := decide_eq_false (by omega)
  have h3 : decide (8 < p) = false := decide_eq_false (by omega)
  go_enter Tryd.func18, Tryd.ntmps18
  go_wp2_with fail
  refine (HA.out _ ((Below.refl _ _).alloc (Nat.le_refl _) _)).mono ?_
  rintro e w1 ⟨rfl, rfl⟩
  go_wp2_with fail
  refine (HA2.out _ ((Below.refl _ _).alloc (Nat.le_refl _) _)).mono ?_
  rintro e w1 ⟨rfl, rfl⟩
  go_wp2_with fail
  go_ret
  exact ⟨rfl, (Below.refl _ _).alloc (Nat.le_refl _) _⟩

set_option maxHeartbeats 1000000 in
theorem bad5 (pub msg : ByteArray) (idx : Int) (so po : Option Addr) (c1 c2 p : Nat) (h : p ≤ 8) (w : World) (hi : idx < 0 ∨ ((2 ^ p : Nat) : Int) ≤ idx)
    (HA : Hid (∀ w', Below w.heap.size w w' → Calls Tryd.prog 38 #[.slice so 18 c1] w' fun e w2 => e = .returned (.bool true) ∧ w' = w2))
    (HA2 : Hid (∀ w', Below w.heap.size w w' → Calls Tryd.prog 38 #[.slice po p c2] w' fun e w2 => e = .returned (.bool true) ∧ w' = w2)) :
    Calls Tryd.prog 18 #[.string pub, .string msg, .agg #[.int .i64 idx, .slice so 18 c1, .slice po p c2]] w fun e w' => e = .returned (.bool false) ∧ Below w.heap.size w w' := by
  have h2 : decide ((8 : Int) < p) = false := decide_eq_false (by omega)
  have h3 : decide (8 < p) = false := decide_eq_false (by omega)
  have hN : wrap64 ((2 : Int) ^ p) = ((2 ^ p : Nat) : Int) := wrap_pow p h
  obtain ⟨N, HN⟩ : ∃ N, Hid (N = 2 ^ p) := ⟨_, Lib.hid rfl⟩
  rw [← HN.out] at hN hi
  have hp8 : (p : Int) ≤ 8 := by omega
  have HH := Lib.hid hi
  by_cases h0 : idx < 0
  · have d0 : decide (idx < 0) = true := decide_eq_true h0
    clear hi h0
    go_enter Tryd.func18, Tryd.ntmps18
    go_wp2_with fail
    refine (HA.out _ ((Below.refl _ _).alloc (Nat.le_refl _) _)).mono ?_
    rintro e w1 ⟨rfl, rfl⟩
    go_wp2_with fail
    refine (HA2.out _ ((Below.refl _ _).alloc (Nat.le_refl _) _)).mono ?_
    rintro e w1 ⟨rfl, rfl⟩
    go_wp2_with fail
    go_quiet (fail)
    go_wp2
    go_ret
    exact ⟨rfl, below_drewN ((Below.refl _ _).alloc (Nat.le_refl _) _) _⟩
  · have d0 : decide (idx < 0) = false := decide_eq_false h0
    have d1 : decide ((N : Int) ≤ idx) = true := decide_eq_true (by omega)
    clear hi h0
    go_enter Tryd.func18, Tryd.ntmps18
    go_wp2_with fail
    refine (HA.out _ ((Below.refl _ _).alloc (Nat.le_refl _) _)).mono ?_
    rintro e w1 ⟨rfl, rfl⟩
    go_wp2_with fail
    refine (HA2.out _ ((Below.refl _ _).alloc (Nat.le_refl _) _)).mono ?_
    rintro e w1 ⟨rfl, rfl⟩
    go_wp2_with fail
    go_quiet (fail)
    go_wp2
    go_ret
    exact ⟨rfl, below_drewN ((Below.refl _ _).alloc (Nat.le_refl _) _) _⟩

theorem verify_any (pub msg : ByteArray) (hm : msg.size ≤ 140737488351232) (idx : Int) (so po : Option Addr) (c1 c2 : Nat) (sig path : List ByteArray) (hn : sig.length ≤ 1000) (hp : path.length ≤ 1000)
    (hz1 : ∀ s ∈ sig, s.size ≤ 140737488351232) (hz2 : ∀ s ∈ path, s.size ≤ 140737488351232) (w : World) (ht : Tab w) (hsg : IsStrs w so sig) (hpt : IsStrs w po path) :
    Calls Tryd.prog 18 #[.string pub, .string msg, .agg #[.int .i64 idx, .slice so sig.length c1, .slice po path.length c2]] w
      fun e w' => e = .returned (.bool (Sgn.verifyB pub msg idx sig path)) ∧ Below w.heap.size w w' := by
  have off : Sgn.formB idx sig path = false → Sgn.verifyB pub msg idx sig path = false := fun h => by unfold Sgn.verifyB; rw [h]; rfl
  by_cases h18 : sig.length = 18
  · rw [h18]
    by_cases h8 : path.length ≤ 8
    · have HA : ∀ b, (sig.all fun s => Dig.isB s.data.toList) = b → Hid (∀ w', Below w.heap.size w w' → Calls Tryd.prog 38 #[.slice so 18 c1] w' fun e w2 => e = .returned (.bool b) ∧ w' = w2) := fun b hb => Lib.hid fun w' hbw => by
        have := areDigests_any so sig c1 (by omega) hz1 w' (hsg.below hbw)
        rw [hb, h18] at this
        exact this
      have HA2 : ∀ b, (path.all fun s => Dig.isB s.data.toList) = b → Hid (∀ w', Below w.heap.size w w' → Calls Tryd.prog 38 #[.slice po path.length c2] w' fun e w2 => e = .returned (.bool b) ∧ w' = w2) := fun b hb => Lib.hid fun w' hbw => by
        have := areDigests_any po path c2 (by omega) hz2 w' (hpt.below hbw)
        rw [hb] at this
        exact this
      cases h3 : (sig.all fun s => Dig.isB s.data.toList) with
      | false =>
        rw [off (by unfold Sgn.formB; rw [h3]; simp)]
        exact bad3 pub msg idx so po c1 c2 path.length h8 w (HA _ h3)
      | true =>
        cases h4 : (path.all fun s => Dig.isB s.data.toList) with
        | false =>
          rw [off (by unfold Sgn.formB; rw [h4]; simp)]
          exact bad4 pub msg idx so po c1 c2 path.length h8 w (HA _ h3) (HA2 _ h4)
        | true =>
          by_cases hi : idx < 0 ∨ ((2 ^ path.length : Nat) : Int) ≤ idx
          · rw [off (by
              unfold Sgn.formB
              rcases hi with hi | hi
              · rw [decide_eq_false (show ¬ 0 ≤ idx by omega)]; simp
              · rw [decide_eq_false (show ¬ idx < ((2 ^ path.length : Nat) : Int) by omega)]; simp)]
            exact bad5 pub msg idx so po c1 c2 path.length h8 w hi (HA _ h3) (HA2 _ h4)
          · obtain ⟨j, rfl⟩ : ∃ j : Nat, idx = j := ⟨idx.toNat, by omega⟩
            have hj : j < 2 ^ path.length := by omega
            have hf : Sgn.formB (j : Int) sig path = true := by
              unfold Sgn.formB
              rw [h3, h4, decide_eq_true h18, decide_eq_true h8, decide_eq_true (show (0 : Int) ≤ j by omega), decide_eq_true (show (j : Int) < ((2 ^ path.length : Nat) : Int) by omega)]
              rfl
            have e : Sgn.verifyB pub msg (j : Int) sig path = decide (Sgn.rootOf msg j sig path = pub) := by
              unfold Sgn.verifyB
              rw [hf, Bool.true_and, Int.toNat_natCast]
            rw [e]
            exact callsIn_wide.1 (verify_good pub msg hm j so po c1 c2 sig path h18 h8 h3 h4 hj w ht hsg hpt)
    · rw [off (by unfold Sgn.formB; rw [decide_eq_false h8]; simp)]
      exact bad2 pub msg idx so po c1 c2 path.length (by omega) hp w
  · rw [off (by unfold Sgn.formB; rw [decide_eq_false h18]; simp)]
    exact bad1 pub msg idx so po c1 c2 sig.length path.length h18 hn hp w

end Go.Proofs.YtfnbdjjobndgfaaDoor

/- The walk of sign.Public. -/
namespace Go.Proofs.YtfnbdjjobndgfaaDoor
open Go.RowKit

set_option maxHeartbeats 1000000 in
theorem public_bad (sec : ByteArray) (h : Int) (hh : (decide (0 ≤ h) && decide (h ≤ 8)) = false) (w : World) :
    Calls Tryd.prog 13 #[.string sec, .int .i64 h] w fun e w' => e = .returned (.tuple #[.string ⟨#[]⟩, .int .i64 1]) ∧ Below w.heap.size w w' := by
  have HI : Hid (∀ w, Calls Tryd.prog 26 #[.int .i64 h] w fun e w' => e = .returned (.bool false) ∧ w = w') := Lib.hid fun w => by
    have := isHeight_any h w
    rw [hh] at this
    exact this
  clear hh
  go_enter Tryd.func13, Tryd.ntmps13
  go_wp2_with fail
  refine (HI.out _).mono ?_
  rintro e w1 ⟨rfl, rfl⟩
  go_wp2_with fail
  refine bodyPost_ret (v := .tuple #[.string ⟨#[]⟩, .int .i64 1]) (by simp [results, Tryd.results13, go_sem]) rfl ⟨rfl, Below.refl _ _⟩

set_option maxHeartbeats 1000000 in
theorem public_good (sec : ByteArray) (hs : sec.size ≤ 300) (h : Nat) (hh : h ≤ 8) (w : World) (ht : Tab w) :
    Calls Tryd.prog 13 #[.string sec, .int .i64 h] w fun e w' => e = .returned (.tuple #[.string (Sgn.rootV sec h), .int .i64 0]) ∧ Below w.heap.size w w' := by
  have HI : Hid (∀ w, Calls Tryd.prog 26 #[.int .i64 h] w fun e w' => e = .returned (.bool true) ∧ w = w') := Lib.hid fun w => by
    have := isHeight_any h w
    rw [decide_eq_true (show (0 : Int) ≤ h by omega), decide_eq_true (show (h : Int) ≤ 8 by omega)] at this
    exact this
  have HTr := Lib.hid (tree_any sec hs h hh w ht)
  have hll : (Sgn.level sec h h).length = 1 := by rw [Sgn.level_len sec h h (Nat.le_refl _), Nat.sub_self]
  have HLL := Lib.hid hll
  have hlt : (h : Int) < (h : Int) + 1 := by omega
  clear ht hs hll
  go_enter Tryd.func13, Tryd.ntmps13
  go_wp2_with fail
  refine (HI.out _).mono ?_
  rintro e w1 ⟨rfl, rfl⟩
  go_wp2_with fail
  refine HTr.out.mono ?_
  rintro e w2 ⟨g, cap, rfl, _, hb, hT⟩
  obtain ⟨vo, vc, hcell, hst⟩ := hT.levs h (Nat.le_refl _)
  rw [HLL.out] at hcell
  obtain ⟨bs, os, rfl, hbs, hcs⟩ := strs_at hst (k := 0) (by rw [HLL.out]; decide)
  have hc0 : w2.cell? ⟨bs, os, none⟩ = some (.string (Sgn.rootV sec h)) := by
    have := hcs 0 (by rw [HLL.out]; decide)
    rw [Nat.add_zero] at this
    rw [this]
    unfold Sgn.rootV
    rw [Sgn.at_get (by rw [HLL.out]; decide)]
  have HB := Lib.hid hb
  clear hcs hst hT hb
  go_wp2_with fail
  refine bodyPost_ret (v := .tuple #[.string (Sgn.rootV sec h), .int .i64 0]) (by simp [results, Tryd.results13, go_sem]) rfl ⟨rfl, HB.out⟩

end Go.Proofs.YtfnbdjjobndgfaaDoor

/- The walk of sign.Sign on what it refuses. -/
namespace Go.Proofs.YtfnbdjjobndgfaaDoor
open Go.RowKit

/-- What Sign answers then. -/
def noSeal : Value := .tuple #[.agg #[.int .i64 0, .slice none 0 0, .slice none 0 0], .int .i64 1]

set_option maxRecDepth 100000 in
set_option maxHeartbeats 4000000 in
theorem sign_bad1 (sec msg : ByteArray) (h idx : Int) (hh : (decide (0 ≤ h) && decide (h ≤ 8)) = false) (w : World) :
    Calls Tryd.prog 15 #[.string sec, .int .i64 h, .int .i64 idx, .string msg] w fun e w' => e = .returned noSeal ∧ Below w.heap.size w w' := by
  have HI : Hid (∀ w, Calls Tryd.prog 26 #[.int .i64 h] w fun e w' => e = .returned (.bool false) ∧ w = w') := Lib.hid fun w => by
    have := isHeight_any h w
    rw [hh] at this
    exact this
  clear hh
  go_enter Tryd.func15, Tryd.ntmps15
  go_wp2_with fail
  obtain ⟨W0, HW0⟩ : ∃ x, Hid (x = ((w.alloc (.cells #[.string sec] 9)).alloc (.cells #[.int .i64 idx] 3)).alloc (.cells #[.int .i64 0, .slice none 0 0, .slice none 0 0] 24)) := ⟨_, Lib.hid rfl⟩
  have HB0 : Hid (Below w.heap.size w W0) := Lib.hid (by
    rw [HW0.out]
    exact (((Below.refl _ _).alloc (Nat.le_refl _) _).alloc (by rw [size_alloc]; omega) _).alloc (by rw [size_alloc, size_alloc]; omega) _)
  have hz0 : W0.heap.size = w.heap.size + 1 + 1 + 1 := by rw [HW0.out]; simp
  have a1 : W0.cell? ⟨w.heap.size + 1, 0, none⟩ = some (.int .i64 idx) := by rw [HW0.out]; simp [cell_alloc]
  have HWr : Hid (Whole W0 (w.heap.size + 1 + 1) 24 #[.int .i64 0, .slice none 0 0, .slice none 0 0]) := Lib.hid (by
    rw [HW0.out]
    have := Whole.new ((w.alloc (.cells #[.string sec] 9)).alloc (.cells #[.int .i64 idx] 3)) 24 #[.int .i64 0, .slice none 0 0, .slice none 0 0]
    rwa [size_alloc, size_alloc] at this)
  rw [← HW0.out]
  have e1 : ∀ X : Grown W0, X.w.cell? ⟨w.heap.size + 1, 0, none⟩ = some (.int .i64 idx) := fun X => by rw [X.cell (by omega)]; exact a1
  refine wp_region_grown (by kernel_rfl) (by kernel_rfl) ?_
  repeat (go_big_quiet_step (exact grown_of_same (HI.out _)))
  refine wpQuiet_nil ?_
  rintro _ ⟨X, rfl⟩
  have HWx : Hid (Whole X.w (w.heap.size + 1 + 1) 24 #[.int .i64 0, .slice none 0 0, .slice none 0 0]) := Lib.hid ((X.below.block _ HWr.out.lt).trans HWr.out)
  have HBx : Hid (Below w.heap.size w X.w) := Lib.hid (HB0.out.trans (X.below.mono HB0.out.size))
  obtain ⟨W1, HW1⟩ : ∃ y, Hid (y = X.w) := ⟨_, Lib.hid rfl⟩
  rw [← HW1.out] at HWx HBx ⊢
  obtain ⟨R, HR⟩ : ∃ y, Hid (y = w.heap.size + 1 + 1) := ⟨_, Lib.hid rfl⟩
  rw [← HR.out] at HWx ⊢
  have c0 : W1.cell? ⟨R, 0, none⟩ = some (.int .i64 0) := HWx.out.cell 0
  have c1 : W1.cell? ⟨R, 1, none⟩ = some (.slice none 0 0) := HWx.out.cell 1
  have c2 : W1.cell? ⟨R, 2, none⟩ = some (.slice none 0 0) := HWx.out.cell 2
  have f0 := HWx.out.frozen 0
  have f1 := HWx.out.frozen 1
  have f2 := HWx.out.frozen 2
  have hRw : w.heap.size ≤ R := by rw [HR.out]; omega
  clear e1 a1
  go_wp2_with fail
  have HWe : Hid (Whole (((W1.setCell ⟨R, 0, none⟩ (.int .i64 0)).setCell ⟨R, 1, none⟩ (.slice none 0 0)).setCell ⟨R, 2, none⟩ (.slice none 0 0)) R 24 #[.int .i64 0, .slice none 0 0, .slice none 0 0]) := Lib.hid (((HWx.out.set 0 _).set 1 _).set 2 _)
  have HBe : Hid (Below w.heap.size w (((W1.setCell ⟨R, 0, none⟩ (.int .i64 0)).setCell ⟨R, 1, none⟩ (.slice none 0 0)).setCell ⟨R, 2, none⟩ (.slice none 0 0))) := Lib.hid (((HBx.out.setCell (p := ⟨R, 0, none⟩) hRw _).setCell (p := ⟨R, 1, none⟩) hRw _).setCell (p := ⟨R, 2, none⟩) hRw _)
  generalize (((W1.setCell ⟨R, 0, none⟩ (.int .i64 0)).setCell ⟨R, 1, none⟩ (.slice none 0 0)).setCell ⟨R, 2, none⟩ (.slice none 0 0)) = W2 at HWe HBe ⊢
  have d0 : W2.cell? ⟨R, 0, none⟩ = some (.int .i64 0) := HWe.out.cell 0
  have d1 : W2.cell? ⟨R, 1, none⟩ = some (.slice none 0 0) := HWe.out.cell 1
  have d2 : W2.cell? ⟨R, 2, none⟩ = some (.slice none 0 0) := HWe.out.cell 2
  refine bodyPost_ret (v := noSeal) (by simp [results, Tryd.results15, go_sem, noSeal, d0, d1, d2]) rfl ⟨rfl, HBe.out⟩

set_option maxRecDepth 100000 in
set_option maxHeartbeats 4000000 in
theorem sign_bad2 (sec msg : ByteArray) (h : Nat) (hh : h ≤ 8) (idx : Int) (hi : idx < 0) (w : World) :
    Calls Tryd.prog 15 #[.string sec, .int .i64 h, .int .i64 idx, .string msg] w fun e w' => e = .returned noSeal ∧ Below w.heap.size w w' := by
  have HI : Hid (∀ w, Calls Tryd.prog 26 #[.int .i64 h] w fun e w' => e = .returned (.bool true) ∧ w = w') := Lib.hid fun w => by
    have := isHeight_any h w
    rw [decide_eq_true (show (0 : Int) ≤ h by omega), decide_eq_true (show (h : Int) ≤ 8 by omega)] at this
    exact this
  have d0 : decide (idx < 0) = true := decide_eq_true hi
  clear hi
  go_enter Tryd.func15, Tryd.ntmps15
  go_wp2_with fail
  obtain ⟨W0, HW0⟩ : ∃ x, Hid (x = ((w.alloc (.cells #[.string sec] 9)).alloc (.cells #[.int .i64 idx] 3)).alloc (.cells #[.int .i64 0, .slice none 0 0, .slice none 0 0] 24)) := ⟨_, Lib.hid rfl⟩
  have HB0 : Hid (Below w.heap.size w W0) := Lib.hid (by
    rw [HW0.out]
    exact (((Below.refl _ _).alloc (Nat.le_refl _) _).alloc (by rw [size_alloc]; omega) _).alloc (by rw [size_alloc, size_alloc]; omega) _)
  have hz0 : W0.heap.size = w.heap.size + 1 + 1 + 1 := by rw [HW0.out]; simp
  have a1 : W0.cell? ⟨w.heap.size + 1, 0, none⟩ = some (.int .i64 idx) := by rw [HW0.out]; simp [cell_alloc]
  have HWr : Hid (Whole W0 (w.heap.size + 1 + 1) 24 #[.int .i64 0, .slice none 0 0, .slice none 0 0]) := Lib.hid (by
    rw [HW0.out]
    have := Whole.new ((w.alloc (.cells #[.string sec] 9)).alloc (.cells #[.int .i64 idx] 3)) 24 #[.int .i64 0, .slice none 0 0, .slice none 0 0]
    rwa [size_alloc, size_alloc] at this)
  rw [← HW0.out]
  have e1 : ∀ X : Grown W0, X.w.cell? ⟨w.heap.size + 1, 0, none⟩ = some (.int .i64 idx) := fun X => by rw [X.cell (by omega)]; exact a1
  refine wp_region_grown (by kernel_rfl) (by kernel_rfl) ?_
  repeat (go_big_quiet_step (exact grown_of_same (HI.out _)))
  refine wpQuiet_nil ?_
  rintro _ ⟨X, rfl⟩
  have HWx : Hid (Whole X.w (w.heap.size + 1 + 1) 24 #[.int .i64 0, .slice none 0 0, .slice none 0 0]) := Lib.hid ((X.below.block _ HWr.out.lt).trans HWr.out)
  have HBx : Hid (Below w.heap.size w X.w) := Lib.hid (HB0.out.trans (X.below.mono HB0.out.size))
  obtain ⟨W1, HW1⟩ : ∃ y, Hid (y = X.w) := ⟨_, Lib.hid rfl⟩
  rw [← HW1.out] at HWx HBx ⊢
  obtain ⟨R, HR⟩ : ∃ y, Hid (y = w.heap.size + 1 + 1) := ⟨_, Lib.hid rfl⟩
  rw [← HR.out] at HWx ⊢
  have c0 : W1.cell? ⟨R, 0, none⟩ = some (.int .i64 0) := HWx.out.cell 0
  have c1 : W1.cell? ⟨R, 1, none⟩ = some (.slice none 0 0) := HWx.out.cell 1
  have c2 : W1.cell? ⟨R, 2, none⟩ = some (.slice none 0 0) := HWx.out.cell 2
  have f0 := HWx.out.frozen 0
  have f1 := HWx.out.frozen 1
  have f2 := HWx.out.frozen 2
  have hRw : w.heap.size ≤ R := by rw [HR.out]; omega
  clear e1 a1
  go_wp2_with fail
  have HWe : Hid (Whole (((W1.setCell ⟨R, 0, none⟩ (.int .i64 0)).setCell ⟨R, 1, none⟩ (.slice none 0 0)).setCell ⟨R, 2, none⟩ (.slice none 0 0)) R 24 #[.int .i64 0, .slice none 0 0, .slice none 0 0]) := Lib.hid (((HWx.out.set 0 _).set 1 _).set 2 _)
  have HBe : Hid (Below w.heap.size w (((W1.setCell ⟨R, 0, none⟩ (.int .i64 0)).setCell ⟨R, 1, none⟩ (.slice none 0 0)).setCell ⟨R, 2, none⟩ (.slice none 0 0))) := Lib.hid (((HBx.out.setCell (p := ⟨R, 0, none⟩) hRw _).setCell (p := ⟨R, 1, none⟩) hRw _).setCell (p := ⟨R, 2, none⟩) hRw _)
  generalize (((W1.setCell ⟨R, 0, none⟩ (.int .i64 0)).setCell ⟨R, 1, none⟩ (.slice none 0 0)).setCell ⟨R, 2, none⟩ (.slice none 0 0)) = W2 at HWe HBe ⊢
  have d0 : W2.cell? ⟨R, 0, none⟩ = some (.int .i64 0) := HWe.out.cell 0
  have d1 : W2.cell? ⟨R, 1, none⟩ = some (.slice none 0 0) := HWe.out.cell 1
  have d2 : W2.cell? ⟨R, 2, none⟩ = some (.slice none 0 0) := HWe.out.cell 2
  refine bodyPost_ret (v := noSeal) (by simp [results, Tryd.results15, go_sem, noSeal, d0, d1, d2]) rfl ⟨rfl, HBe.out⟩

set_option maxRecDepth 100000 in
set_option maxHeartbeats 4000000 in
theorem sign_bad3 (sec msg : ByteArray) (h : Nat) (hh : h ≤ 8) (idx : Int) (hi : 0 ≤ idx) (hi2 : ((2 ^ h : Nat) : Int) ≤ idx) (w : World) :
    Calls Tryd.prog 15 #[.string sec, .int .i64 h, .int .i64 idx, .string msg] w fun e w' => e = .returned noSeal ∧ Below w.heap.size w w' := by
  have HI : Hid (∀ w, Calls Tryd.prog 26 #[.int .i64 h] w fun e w' => e = .returned (.bool true) ∧ w = w') := Lib.hid fun w => by
    have := isHeight_any h w
    rw [decide_eq_true (show (0 : Int) ≤ h by omega), decide_eq_true (show (h : Int) ≤ 8 by omega)] at this
    exact this
  obtain ⟨N, HN⟩ : ∃ N, Hid (N = 2 ^ h) := ⟨_, Lib.hid rfl⟩
  have hN : wrap64 ((2 : Int) ^ h) = (N : Int) := by rw [HN.out]; exact wrap_pow h hh
  rw [← HN.out] at hi2
  have hh8 : (h : Int) ≤ 8 := by omega
  have d0 : decide (idx < 0) = false := decide_eq_false (by omega)
  have d1 : decide ((N : Int) ≤ idx) = true := decide_eq_true hi2
  clear hi hi2
  go_enter Tryd.func15, Tryd.ntmps15
  go_wp2_with fail
  obtain ⟨W0, HW0⟩ : ∃ x, Hid (x = ((w.alloc (.cells #[.string sec] 9)).alloc (.cells #[.int .i64 idx] 3)).alloc (.cells #[.int .i64 0, .slice none 0 0, .slice none 0 0] 24)) := ⟨_, Lib.hid rfl⟩
  have HB0 : Hid (Below w.heap.size w W0) := Lib.hid (by
    rw [HW0.out]
    exact (((Below.refl _ _).alloc (Nat.le_refl _) _).alloc (by rw [size_alloc]; omega) _).alloc (by rw [size_alloc, size_alloc]; omega) _)
  have hz0 : W0.heap.size = w.heap.size + 1 + 1 + 1 := by rw [HW0.out]; simp
  have a1 : W0.cell? ⟨w.heap.size + 1, 0, none⟩ = some (.int .i64 idx) := by rw [HW0.out]; simp [cell_alloc]
  have HWr : Hid (Whole W0 (w.heap.size + 1 + 1) 24 #[.int .i64 0, .slice none 0 0, .slice none 0 0]) := Lib.hid (by
    rw [HW0.out]
    have := Whole.new ((w.alloc (.cells #[.string sec] 9)).alloc (.cells #[.int .i64 idx] 3)) 24 #[.int .i64 0, .slice none 0 0, .slice none 0 0]
    rwa [size_alloc, size_alloc] at this)
  rw [← HW0.out]
  have e1 : ∀ X : Grown W0, X.w.cell? ⟨w.heap.size + 1, 0, none⟩ = some (.int .i64 idx) := fun X => by rw [X.cell (by omega)]; exact a1
  refine wp_region_grown (by kernel_rfl) (by kernel_rfl) ?_
  repeat (go_big_quiet_step (exact grown_of_same (HI.out _)))
  refine wpQuiet_nil ?_
  rintro _ ⟨X, rfl⟩
  have HWx : Hid (Whole X.w (w.heap.size + 1 + 1) 24 #[.int .i64 0, .slice none 0 0, .slice none 0 0]) := Lib.hid ((X.below.block _ HWr.out.lt).trans HWr.out)
  have HBx : Hid (Below w.heap.size w X.w) := Lib.hid (HB0.out.trans (X.below.mono HB0.out.size))
  obtain ⟨W1, HW1⟩ : ∃ y, Hid (y = X.w) := ⟨_, Lib.hid rfl⟩
  rw [← HW1.out] at HWx HBx ⊢
  obtain ⟨R, HR⟩ : ∃ y, Hid (y = w.heap.size + 1 + 1) := ⟨_, Lib.hid rfl⟩
  rw [← HR.out] at HWx ⊢
  have c0 : W1.cell? ⟨R, 0, none⟩ = some (.int .i64 0) := HWx.out.cell 0
  have c1 : W1.cell? ⟨R, 1, none⟩ = some (.slice none 0 0) := HWx.out.cell 1
  have c2 : W1.cell? ⟨R, 2, none⟩ = some (.slice none 0 0) := HWx.out.cell 2
  have f0 := HWx.out.frozen 0
  have f1 := HWx.out.frozen 1
  have f2 := HWx.out.frozen 2
  have hRw : w.heap.size ≤ R := by rw [HR.out]; omega
  clear e1 a1
  go_wp2_with fail
  have HWe : Hid (Whole (((W1.setCell ⟨R, 0, none⟩ (.int .i64 0)).setCell ⟨R, 1, none⟩ (.slice none 0 0)).setCell ⟨R, 2, none⟩ (.slice none 0 0)) R 24 #[.int .i64 0, .slice none 0 0, .slice none 0 0]) := Lib.hid (((HWx.out.set 0 _).set 1 _).set 2 _)
  have HBe : Hid (Below w.heap.size w (((W1.setCell ⟨R, 0, none⟩ (.int .i64 0)).setCell ⟨R, 1, none⟩ (.slice none 0 0)).setCell ⟨R, 2, none⟩ (.slice none 0 0))) := Lib.hid (((HBx.out.setCell (p := ⟨R, 0, none⟩) hRw _).setCell (p := ⟨R, 1, none⟩) hRw _).setCell (p := ⟨R, 2, none⟩) hRw _)
  generalize (((W1.setCell ⟨R, 0, none⟩ (.int .i64 0)).setCell ⟨R, 1, none⟩ (.slice none 0 0)).setCell ⟨R, 2, none⟩ (.slice none 0 0)) = W2 at HWe HBe ⊢
  have d0 : W2.cell? ⟨R, 0, none⟩ = some (.int .i64 0) := HWe.out.cell 0
  have d1 : W2.cell? ⟨R, 1, none⟩ = some (.slice none 0 0) := HWe.out.cell 1
  have d2 : W2.cell? ⟨R, 2, none⟩ = some (.slice none 0 0) := HWe.out.cell 2
  refine bodyPost_ret (v := noSeal) (by simp [results, Tryd.results15, go_sem, noSeal, d0, d1, d2]) rfl ⟨rfl, HBe.out⟩

/-- What Sign refuses. -/
theorem sign_bad (sec msg : ByteArray) (h idx : Int) (hb : (decide (0 ≤ h) && decide (h ≤ 8)) = false ∨ idx < 0 ∨ ∃ k : Nat, h = k ∧ k ≤ 8 ∧ ((2 ^ k : Nat) : Int) ≤ idx) (w : World) :
    Calls Tryd.prog 15 #[.string sec, .int .i64 h, .int .i64 idx, .string msg] w fun e w' => e = .returned noSeal ∧ Below w.heap.size w w' := by
  by_cases hh : (decide (0 ≤ h) && decide (h ≤ 8)) = false
  · exact sign_bad1 sec msg h idx hh w
  · rw [Bool.not_eq_false, Bool.and_eq_true] at hh
    obtain ⟨k, rfl⟩ : ∃ k : Nat, h = k := ⟨h.toNat, by have := of_decide_eq_true hh.1; omega⟩
    have hk : k ≤ 8 := by have := of_decide_eq_true hh.2; omega
    by_cases h0 : idx < 0
    · exact sign_bad2 sec msg k hk idx h0 w
    · rcases hb with hb | hb | ⟨j, hj, h8, h2⟩
      · rw [hh.1, hh.2] at hb; cases hb
      · exact absurd hb h0
      · obtain rfl : k = j := by omega
        exact sign_bad3 sec msg k hk idx (by omega) h2 w

end Go.Proofs.YtfnbdjjobndgfaaDoor

/- The walks of the law's short, and of the reference's Few and Same of seals. -/
namespace Go.Proofs.YtfnbdjjobndgfaaDoor
open Go.RowKit

set_option maxHeartbeats 1000000 in
theorem short_any (ao : Option Addr) (ss : List ByteArray) (cap : Nat) (hn : ss.length ≤ 140737488351232) (hz : ∀ s ∈ ss, s.size ≤ 9223372036854775807) (w : World) (h : IsStrs w ao ss) :
    Calls Tryd.prog 11 #[.slice ao ss.length cap] w fun e w' => e = .returned (.bool (ss.all fun s => decide (s.size ≤ 300))) ∧ w = w' := by
  obtain ⟨n, Hn⟩ : ∃ n, Hid (n = ss.length) := ⟨_, Lib.hid rfl⟩
  obtain ⟨r, Hr⟩ : ∃ n, Hid (n = ss.all fun s => decide (s.size ≤ 300)) := ⟨_, Lib.hid rfl⟩
  have HS := Lib.hid h
  have HZ := Lib.hid hz
  rw [← Hn.out] at hn ⊢
  rw [← Hr.out]
  clear h hz
  go_enter Tryd.func11, Tryd.ntmps11
  go_wp2
  go_loop [3] (fun i => ∃ k : Nat, k ≤ n ∧ i = .int .i64 k ∧ Hid (∀ q, (hq : q < ss.length) → q < k → ss[q].size ≤ 300)) (fun i => n - (intOf i).toNat)
  case atStart => exact ⟨0, by omega, rfl, Lib.hid fun q _ h => by omega⟩
  case round =>
    obtain ⟨k, hk, rfl, HA⟩ := hrel
    by_cases hlt : k < n
    · have hlt' : (k : Int) < n := by omega
      have hks : k < ss.length := by rw [← Hn.out]; exact hlt
      obtain ⟨bk, off, rfl, hbk, hc⟩ := strs_at HS.out hks
      have d1 := hc k hks
      obtain ⟨s, Hs⟩ : ∃ s, Hid (s = ss[k]) := ⟨_, Lib.hid rfl⟩
      rw [← Hs.out] at d1
      have hsz : s.size ≤ 9223372036854775807 := by rw [Hs.out]; exact HZ.out _ (List.getElem_mem _)
      clear hc hbk
      by_cases hs : s.size ≤ 300
      · have g1 : decide ((300 : Int) < s.size) = false := decide_eq_false (by omega)
        have g2 : decide (300 < s.size) = false := decide_eq_false (by omega)
        go_wp2
        go_round
        case rel => exact ⟨k + 1, by omega, by go_num, Lib.hid fun q h1 h2 => by
          by_cases e : q = k
          · subst e; rw [← Hs.out]; exact hs
          · exact HA.out q h1 (by omega)⟩
        case measure => simp [intOf]; omega
      · have g1 : decide ((300 : Int) < s.size) = true := decide_eq_true (by omega)
        have g2 : decide (300 < s.size) = true := decide_eq_true (by omega)
        have HE : Hid (r = false) := Lib.hid (by
          rw [Hr.out]
          refine List.all_eq_false.2 ⟨s, by rw [Hs.out]; exact List.getElem_mem _, by simpa using hs⟩)
        go_wp2
        go_ret
        exact ⟨ret_bool HE.out.symm, rfl⟩
    · have HE : Hid (r = true) := Lib.hid (by
        rw [Hr.out]
        refine List.all_eq_true.2 fun s hs => ?_
        obtain ⟨q, hq, rfl⟩ := List.getElem_of_mem hs
        exact decide_eq_true (HA.out q hq (by have := Hn.out; omega)))
      obtain rfl : n = k := by omega
      go_wp2
      go_ret
      exact ⟨ret_bool HE.out.symm, rfl⟩

/-- What the reference calls few. -/
def FewS (sig path : List ByteArray) : Prop := sig.length ≤ 30 ∧ path.length ≤ 30 ∧ (∀ s ∈ sig, s.size ≤ 100) ∧ ∀ s ∈ path, s.size ≤ 100

def FewPost (w : World) (sig path : List ByteArray) (e : Ending) (w' : World) : Prop := ∃ b, e = .returned (.bool b) ∧ (b = true → FewS sig path) ∧ Below w.heap.size w w'
theorem upto_all {l : List ByteArray} {n k : Nat} (hn : n = l.length) (h : ∀ q, (hq : q < l.length) → q < k → l[q].size ≤ 100) (hk : n ≤ k ∨ 30 ≤ k) (h30 : n ≤ 30) : ∀ s ∈ l, s.size ≤ 100 := fun s hs => by
  obtain ⟨q, hq, rfl⟩ := List.getElem_of_mem hs
  exact h q hq (by omega)

set_option maxHeartbeats 2000000 in
theorem few_any (idx : Int) (so po : Option Addr) (c1 c2 : Nat) (sig path : List ByteArray)
    (hz1 : ∀ s ∈ sig, s.size ≤ 9223372036854775807) (hz2 : ∀ s ∈ path, s.size ≤ 9223372036854775807) (w : World) (h1 : IsStrs w so sig) (h2 : IsStrs w po path) :
    Calls Tryd.prog 12 #[.agg #[.int .i64 idx, .slice so sig.length c1, .slice po path.length c2]] w
      (FewPost w sig path) := by
  obtain ⟨n, Hn⟩ : ∃ n, Hid (n = sig.length) := ⟨_, Lib.hid rfl⟩
  obtain ⟨p, Hp⟩ : ∃ n, Hid (n = path.length) := ⟨_, Lib.hid rfl⟩
  have HS1 := Lib.hid h1
  have HS2 := Lib.hid h2
  have HZ1 := Lib.hid hz1
  have HZ2 := Lib.hid hz2
  rw [← Hn.out]
  rw [← Hp.out]
  clear h1 h2 hz1 hz2
  go_enter Tryd.func12, Tryd.ntmps12
  go_wp2
  obtain ⟨W0, HW0⟩ : ∃ x, Hid (x = w.alloc (.cells #[.int .i64 idx, .slice so n c1, .slice po p c2] 24)) := ⟨_, Lib.hid rfl⟩
  have y1 : W0.cell? ⟨w.heap.size, 1, none⟩ = some (.slice so n c1) := by rw [HW0.out, cell_alloc, if_pos rfl]; rfl
  have y2 : W0.cell? ⟨w.heap.size, 2, none⟩ = some (.slice po p c2) := by rw [HW0.out, cell_alloc, if_pos rfl]; rfl
  have HB0 : Hid (Below w.heap.size w W0) := Lib.hid (by rw [HW0.out]; exact (Below.refl _ _).alloc (Nat.le_refl _) _)
  rw [← HW0.out]
  go_loop [3] (fun i => ∃ k : Nat, k ≤ 30 ∧ i = .int .i64 k ∧ Hid (∀ q, (hq : q < sig.length) → q < k → sig[q].size ≤ 100)) (fun i => 30 - (intOf i).toNat)
  case atStart => exact ⟨0, by omega, rfl, Lib.hid fun q _ h => by omega⟩
  case round =>
    obtain ⟨k, hk, rfl, HA⟩ := hrel
    by_cases hlt : k < n ∧ k < 30
    · obtain ⟨hlt, h30⟩ := hlt
      have hlt' : (k : Int) < n := by omega
      have h30' : (k : Int) < 30 := by omega
      have hks : k < sig.length := by rw [← Hn.out]; exact hlt
      obtain ⟨bk, off, rfl, hbk, hc⟩ := strs_at (HS1.out.below HB0.out) hks
      have d1 := hc k hks
      obtain ⟨s, Hs⟩ : ∃ s, Hid (s = sig[k]) := ⟨_, Lib.hid rfl⟩
      rw [← Hs.out] at d1
      have hsz : s.size ≤ 9223372036854775807 := by rw [Hs.out]; exact HZ1.out _ (List.getElem_mem _)
      clear hc hbk
      by_cases hs : s.size ≤ 100
      · have g1 : decide ((100 : Int) < s.size) = false := decide_eq_false (by omega)
        have g2 : decide (100 < s.size) = false := decide_eq_false (by omega)
        go_wp2
        go_round
        case rel => exact ⟨k + 1, by omega, by go_num, Lib.hid fun q h1 h2 => by
          by_cases e : q = k
          · subst e; rw [← Hs.out]; exact hs
          · exact HA.out q h1 (by omega)⟩
        case measure => simp [intOf]; omega
      · have g1 : decide ((100 : Int) < s.size) = true := decide_eq_true (by omega)
        have g2 : decide (100 < s.size) = true := decide_eq_true (by omega)
        go_wp2
        go_ret
        exact ⟨false, rfl, (fun h => by cases h), HB0.out⟩
    · have HK : Hid (n ≤ k ∨ 30 ≤ k) := Lib.hid (by omega)
      have hb : ¬ (k : Int) < n ∨ (k : Int) < n ∧ ¬ (k : Int) < 30 := by omega
      clear hlt
      rcases hb with hb1 | ⟨hb1, hb2⟩
      all_goals
        go_wp2
        go_loop [4] (fun i => ∃ k : Nat, k ≤ 30 ∧ i = .int .i64 k ∧ Hid (∀ q, (hq : q < path.length) → q < k → path[q].size ≤ 100)) (fun i => 30 - (intOf i).toNat)
        case atStart => exact ⟨0, by omega, rfl, Lib.hid fun q _ h => by omega⟩
        case round =>
          obtain ⟨j, hj, rfl, HA2⟩ := hrel
          by_cases hlt : j < p ∧ j < 30
          · obtain ⟨hlt, h30⟩ := hlt
            have hlt' : (j : Int) < p := by omega
            have h30' : (j : Int) < 30 := by omega
            have hks : j < path.length := by rw [← Hp.out]; exact hlt
            obtain ⟨bk, off, rfl, hbk, hc⟩ := strs_at (HS2.out.below HB0.out) hks
            have d1 := hc j hks
            obtain ⟨s, Hs⟩ : ∃ s, Hid (s = path[j]) := ⟨_, Lib.hid rfl⟩
            rw [← Hs.out] at d1
            have hsz : s.size ≤ 9223372036854775807 := by rw [Hs.out]; exact HZ2.out _ (List.getElem_mem _)
            clear hc hbk
            by_cases hs : s.size ≤ 100
            · have g1 : decide ((100 : Int) < s.size) = false := decide_eq_false (by omega)
              have g2 : decide (100 < s.size) = false := decide_eq_false (by omega)
              go_wp2
              go_round
              case rel => exact ⟨j + 1, by omega, by go_num, Lib.hid fun q h1 h2 => by
                by_cases e : q = j
                · subst e; rw [← Hs.out]; exact hs
                · exact HA2.out q h1 (by omega)⟩
              case measure => simp [intOf]; omega
            · have g1 : decide ((100 : Int) < s.size) = true := decide_eq_true (by omega)
              have g2 : decide (100 < s.size) = true := decide_eq_true (by omega)
              go_wp2
              go_ret
              exact ⟨false, rfl, (fun h => by cases h), HB0.out⟩
          · have HK2 : Hid (p ≤ j ∨ 30 ≤ j) := Lib.hid (by omega)
            have hb' : ¬ (j : Int) < p ∨ (j : Int) < p ∧ ¬ (j : Int) < 30 := by omega
            clear hlt
            obtain ⟨m1, hm1⟩ : ∃ b, decide ((n : Int) ≤ 30) = b := ⟨_, rfl⟩
            obtain ⟨m2, hm2⟩ : ∃ b, decide ((p : Int) ≤ 30) = b := ⟨_, rfl⟩
            have HF : Hid ((m1 && m2) = true → FewS sig path) := Lib.hid fun h => by
              rw [Bool.and_eq_true] at h
              have a1 : (n : Int) ≤ 30 := of_decide_eq_true (hm1.trans h.1)
              have a2 : (p : Int) ≤ 30 := of_decide_eq_true (hm2.trans h.2)
              exact ⟨by rw [← Hn.out]; omega, by rw [← Hp.out]; omega, upto_all Hn.out HA.out HK.out (by omega), upto_all Hp.out HA2.out HK2.out (by omega)⟩
            have hm1n : decide (n ≤ 30) = m1 := by rw [← hm1]; exact decide_eq_decide.2 (by omega)
            have hm2n : decide (p ≤ 30) = m2 := by rw [← hm2]; exact decide_eq_decide.2 (by omega)
            rcases hb' with hc1 | ⟨hc1, hc2⟩
            all_goals
              cases m1
              all_goals
                go_wp2
                go_ret
                exact ⟨_, rfl, HF.out, HB0.out⟩

theorem same_true {a b : List ByteArray} (h : sameB a b = true) : a = b := bytesOf_inj (of_decide_eq_true h)
/-- Are two seals equal? -/
def sameS (i j : Int) (s1 p1 s2 p2 : List ByteArray) : Bool := decide (i = j) && sameB s1 s2 && sameB p1 p2
set_option maxHeartbeats 1000000 in
theorem same_any (i j : Int) (a1 b1 a2 b2 : Option Addr) (c1 d1 c2 d2 : Nat) (s1 p1 s2 p2 : List ByteArray) (hl : s1.length ≤ 1000 ∧ p1.length ≤ 1000 ∧ s2.length ≤ 1000 ∧ p2.length ≤ 1000) (w : World)
    (h1 : IsStrs w a1 s1) (h2 : IsStrs w b1 p1) (h3 : IsStrs w a2 s2) (h4 : IsStrs w b2 p2) :
    Calls Tryd.prog 17 #[.agg #[.int .i64 i, .slice a1 s1.length c1, .slice b1 p1.length d1], .agg #[.int .i64 j, .slice a2 s2.length c2, .slice b2 p2.length d2]] w
      fun e w' => e = .returned (.bool (sameS i j s1 p1 s2 p2)) ∧ Below w.heap.size w w' := by
  have HA : Hid (∀ w', Below w.heap.size w w' → Calls Tryd.prog 21 #[.slice a1 s1.length c1, .slice a2 s2.length c2] w' fun e w2 => e = .returned (.bool (sameB s1 s2)) ∧ Below w'.heap.size w' w2) :=
    Lib.hid fun w' hb => refSame_any a1 a2 s1 s2 c1 c2 w' (h1.below hb) (h3.below hb) (by omega) (by omega)
  have HB : Hid (∀ w', Below w.heap.size w w' → Calls Tryd.prog 21 #[.slice b1 p1.length d1, .slice b2 p2.length d2] w' fun e w2 => e = .returned (.bool (sameB p1 p2)) ∧ Below w'.heap.size w' w2) :=
    Lib.hid fun w' hb => refSame_any b1 b2 p1 p2 d1 d2 w' (h2.below hb) (h4.below hb) (by omega) (by omega)
  obtain ⟨r, Hr⟩ : ∃ r, Hid (r = sameS i j s1 p1 s2 p2) := ⟨_, Lib.hid rfl⟩
  obtain ⟨x, Hx⟩ : ∃ r, Hid (r = sameB s1 s2) := ⟨_, Lib.hid rfl⟩
  obtain ⟨y, Hy⟩ : ∃ r, Hid (r = sameB p1 p2) := ⟨_, Lib.hid rfl⟩
  have HR : Hid (r = (decide (i = j) && x && y)) := Lib.hid (by rw [Hr.out, Hx.out, Hy.out]; rfl)
  rw [← Hr.out]
  rw [← Hx.out] at HA
  rw [← Hy.out] at HB
  obtain ⟨n1, Hn1⟩ : ∃ n, Hid (n = s1.length) := ⟨_, Lib.hid rfl⟩
  obtain ⟨n2, Hn2⟩ : ∃ n, Hid (n = s2.length) := ⟨_, Lib.hid rfl⟩
  obtain ⟨m1, Hm1⟩ : ∃ n, Hid (n = p1.length) := ⟨_, Lib.hid rfl⟩
  obtain ⟨m2, Hm2⟩ : ∃ n, Hid (n = p2.length) := ⟨_, Lib.hid rfl⟩
  rw [← Hn1.out, ← Hn2.out] at HA
  rw [← Hm1.out, ← Hm2.out] at HB
  rw [← Hn1.out, ← Hn2.out, ← Hm1.out, ← Hm2.out]
  clear h1 h2 h3 h4 hl
  go_enter Tryd.func17, Tryd.ntmps17
  obtain ⟨bi, hbi⟩ : ∃ b, (i == j) = b := ⟨_, rfl⟩
  have hbd : decide (i = j) = bi := by rw [← hbi]; exact (by rw [Bool.eq_iff_iff]; simp)
  have HW : Hid (Below w.heap.size w ((w.alloc (.cells #[.int .i64 i, .slice a1 n1 c1, .slice b1 m1 d1] 24)).alloc (.cells #[.int .i64 j, .slice a2 n2 c2, .slice b2 m2 d2] 24))) :=
    Lib.hid (((Below.refl _ _).alloc (Nat.le_refl _) _).alloc (by rw [size_alloc]; omega) _)
  rw [hbd] at HR
  cases bi with
  | false =>
    go_wp2_with fail
    go_ret
    exact ⟨ret_bool (by rw [HR.out]; rfl), HW.out⟩
  | true =>
    cases x with
    | false =>
      go_wp2_with fail
      refine (HA.out _ HW.out).mono ?_
      rintro e w1 ⟨rfl, hb⟩
      have HB1 := Lib.hid (HW.out.trans (hb.mono HW.out.size))
      clear hb
      go_wp2_with fail
      go_ret
      exact ⟨ret_bool (by rw [HR.out]; rfl), HB1.out⟩
    | true =>
      go_wp2_with fail
      refine (HA.out _ HW.out).mono ?_
      rintro e w1 ⟨rfl, hb⟩
      have HB1 := Lib.hid (HW.out.trans (hb.mono HW.out.size))
      have q1 : w1.cell? ⟨w.heap.size, 2, none⟩ = some (.slice b1 m1 d1) := by rw [hb.cell (p := ⟨w.heap.size, 2, none⟩) (by simp; omega)]; simp [cell_alloc]
      have q2 : w1.cell? ⟨w.heap.size + 1, 2, none⟩ = some (.slice b2 m2 d2) := by rw [hb.cell (p := ⟨w.heap.size + 1, 2, none⟩) (by simp)]; simp [cell_alloc]
      clear hb
      go_wp2_with fail
      refine (HB.out _ HB1.out).mono ?_
      rintro e w2 ⟨rfl, hb⟩
      have HB2 := Lib.hid (HB1.out.trans (hb.mono HB1.out.size))
      clear hb
      go_wp2_with fail
      go_ret
      exact ⟨ret_bool (by rw [HR.out]; rfl), HB2.out⟩

end Go.Proofs.YtfnbdjjobndgfaaDoor

/- The walk of sign.Sign. -/
namespace Go.Proofs.YtfnbdjjobndgfaaDoor
open Go.RowKit Go.Shelf

attribute [local go_sem] Oper.semAt_some

/-- The worlds of a class. -/
def Cls (C : World → Prop) : Type := { x : World // C x }
def Cls.w {C : World → Prop} (x : Cls C) : World := x.1
theorem Cls.out {C : World → Prop} (x : Cls C) : C x.w := x.2
def sigAt (sec : ByteArray) (idx : Nat) (m : ByteArray) (q : Fin 18) : ByteArray := Sgn.chainV (Sgn.dAt m q.val) (Sgn.startV sec idx q.val)
theorem owns_only {w w' : World} {F : Nat → Prop} {base : Nat} {e : TypeId} {size : Nat} {v : Value} {n : Nat} {xs : List Value} (h : w.ownsRow base e size v n xs) (hb : Only F w w') (hv : ∀ g, v.ownBlock = some g → ¬ F g) : w'.ownsRow base e size v n xs := by
  have hlt := h.lt
  rcases h with ⟨h1, h2 | ⟨g, cap, cur, rfl, hB, hc, rest⟩⟩
  · exact ⟨h1, Or.inl h2⟩
  · exact ⟨h1, Or.inr ⟨g, cap, cur, rfl, hB, (hb.block g (hlt g rfl).2 (hv g rfl)).trans hc, rest⟩⟩
theorem owns_cells' {w : World} {base : Nat} {e : TypeId} {size : Nat} {v : Value} {n : Nat} {xs : List Value} {g : Nat} {ds : Option (List Deferred)} (h : w.ownsRow base e size v n xs) (hv : v.ownBlock = some g) (hd : w.heap[g]? = some (.deferred ds)) : False := by
  have := owns_cells h g _ hv hd
  cases this
theorem owns_cap' {w : World} {base : Nat} {e : TypeId} {size : Nat} {ao : Option Addr} {n cap : Nat} {xs : List Value} (h : w.ownsRow base e size (.slice ao n cap) n xs) : n ≤ cap := by
  rcases h.2 with ⟨hh, h0⟩ | ⟨g', cap', cur, hv, _, _, hle, _⟩
  · omega
  · simp only [Value.slice.injEq] at hv
    omega
theorem newStr (X : World) (s : ByteArray) : ∀ (i : Nat) (u : Value), [Value.string s][i]? = some u → (X.alloc (.cells #[.string s] 9)).cell? ((⟨X.heap.size, 0, none⟩ : Addr).add i) = some u := by
  intro i u hu
  have e : (⟨X.heap.size, 0, none⟩ : Addr).add i = ⟨X.heap.size, i, none⟩ := by unfold Addr.add; split <;> simp_all
  rw [e, cell_alloc, if_pos rfl]
  simpa using hu
theorem xor_at (n k : Nat) (h : n ≤ 256) : bits BinOp.xor IntKind.i64 ((n : Int) / 2 ^ k) 1 = ((n / 2 ^ k ^^^ 1 : Nat) : Int) := by
  have h1 : ∀ q : Fin 257, bits BinOp.xor IntKind.i64 ((q.val : Nat) : Int) 1 = ((q.val ^^^ 1 : Nat) : Int) := by decide +kernel
  have h2 : (n : Int) / 2 ^ k = ((n / 2 ^ k : Nat) : Int) := by push_cast; rfl
  rw [h2]
  exact h1 ⟨n / 2 ^ k, by have := Nat.div_le_self n (2 ^ k); omega⟩
/-- What holds between two rounds over the digits. -/
def SigI (sec : ByteArray) (idx : Nat) (m : ByteArray) (B : Nat) (pre : List (Fin 18)) (W : World) : Prop :=
  ∃ eo ec, Whole W B 24 #[.int .i64 idx, .slice eo pre.length ec, .slice none 0 0] ∧ W.ownsRow B 9 1 (.slice eo pre.length ec) pre.length (strC (pre.map (sigAt sec idx m)))

theorem sig_of (sec : ByteArray) (idx : Nat) (m : ByteArray) {ys : List (Fin 18)} (h : ys.map (encD m) = dpairs m 18) : ys.map (sigAt sec idx m) = Sgn.sigV sec idx m := by
  rw [← enc_upFin m 18 (Nat.le_refl _)] at h
  rw [encD_inj m h]
  unfold upFin Sgn.sigV
  refine List.ext_getElem (by simp) fun i h1 h2 => ?_
  simp [sigAt]

set_option maxRecDepth 100000 in
set_option maxHeartbeats 8000000 in
theorem sign_good (sec msg : ByteArray) (hs : sec.size ≤ 300) (hm : msg.size ≤ 140737488351232) (h idx : Nat) (hh : h ≤ 8) (hi : idx < 2 ^ h) (w : World) (ht : Tab w) :
    CallsIn Fence.wide 6 Tryd.prog 15 #[.string sec, .int .i64 h, .int .i64 idx, .string msg] w
      fun e w' => (∃ so po c1 c2, e = .returned (.tuple #[.agg #[.int .i64 idx, .slice so 18 c1, .slice po h c2], .int .i64 0]) ∧ IsStrs w' so (Sgn.sigV sec idx msg) ∧ IsStrs w' po (Sgn.pathV sec h idx) ∧ 18 ≤ c1 ∧ h ≤ c2) ∧ Below w.heap.size w w' := by
  have hro : Fence.wide.round = none := rfl
  have hone : 1 ≤ 6 := by omega
  have HT := Lib.hid ht
  have HI : Hid (∀ w, Calls Tryd.prog 26 #[.int .i64 h] w fun e w' => e = .returned (.bool true) ∧ w = w') := Lib.hid fun w => by
    have := isHeight_any h w
    rw [decide_eq_true (show (0 : Int) ≤ h by omega), decide_eq_true (show (h : Int) ≤ 8 by omega)] at this
    exact this
  obtain ⟨N, HN⟩ : ∃ N, Hid (N = 2 ^ h) := ⟨_, Lib.hid rfl⟩
  have hN : wrap64 ((2 : Int) ^ h) = (N : Int) := by rw [HN.out]; exact wrap_pow h hh
  have hidx : idx < N := by rw [HN.out]; exact hi
  have hN2 : N ≤ 256 := by rw [HN.out]; exact Nat.pow_le_pow_right (by decide) hh
  have hh8 : (h : Int) ≤ 8 := by omega
  have hix : decide ((N : Int) ≤ idx) = false := decide_eq_false (by omega)
  have hixn : decide (N ≤ idx) = false := decide_eq_false (by omega)
  have hix0 : decide ((idx : Int) < 0) = false := decide_eq_false (by omega)
  obtain ⟨i1, hi1, hy0, hy1, hy2⟩ := info_parts info_str
  clear hi ht
  refine callsIn_of_wp_marks Tryd.func15 rfl trivial ?_ hro
  simp only [Tryd.ntmps15, List.size_toArray, List.length_cons, List.length_nil, Nat.reduceAdd, Nat.reduceSub, Array.replicate_succ, Array.replicate_zero, List.push_toArray, List.append_toArray, List.nil_append, List.cons_append]
  gi_wp2_with fail
  refine wpIn_wide.2 ?_
  obtain ⟨W0, HW0⟩ : ∃ x, Hid (x = ((w.alloc (.cells #[.string sec] 9)).alloc (.cells #[.int .i64 idx] 3)).alloc (.cells #[.int .i64 0, .slice none 0 0, .slice none 0 0] 24)) := ⟨_, Lib.hid rfl⟩
  have HB0 : Hid (Below w.heap.size w W0) := Lib.hid (by
    rw [HW0.out]
    exact (((Below.refl _ _).alloc (Nat.le_refl _) _).alloc (by rw [size_alloc]; omega) _).alloc (by rw [size_alloc, size_alloc]; omega) _)
  have hz0 : W0.heap.size = w.heap.size + 1 + 1 + 1 := by rw [HW0.out]; simp
  have a0 : W0.cell? ⟨w.heap.size, 0, none⟩ = some (.string sec) := by rw [HW0.out]; simp [cell_alloc]; omega
  have a1 : W0.cell? ⟨w.heap.size + 1, 0, none⟩ = some (.int .i64 idx) := by rw [HW0.out]; simp [cell_alloc]
  have HWr : Hid (Whole W0 (w.heap.size + 1 + 1) 24 #[.int .i64 0, .slice none 0 0, .slice none 0 0]) := Lib.hid (by
    rw [HW0.out]
    have := Whole.new ((w.alloc (.cells #[.string sec] 9)).alloc (.cells #[.int .i64 idx] 3)) 24 #[.int .i64 0, .slice none 0 0, .slice none 0 0]
    rwa [size_alloc, size_alloc] at this)
  rw [← HW0.out]
  have e1 : ∀ X : Grown W0, X.w.cell? ⟨w.heap.size + 1, 0, none⟩ = some (.int .i64 idx) := fun X => by rw [X.cell (by omega)]; exact a1
  refine wp_region_grown (by kernel_rfl) (by kernel_rfl) ?_
  repeat (go_big_quiet_step (exact grown_of_same (HI.out _)))
  refine wpQuiet_nil ?_
  rintro _ ⟨X, rfl⟩
  obtain ⟨W1, HW1⟩ : ∃ y, Hid (y = X.w) := ⟨_, Lib.hid rfl⟩
  have HB1 : Hid (Below W0.heap.size W0 W1) := Lib.hid (by rw [HW1.out]; exact X.below)
  have z0 : W1.cell? ⟨w.heap.size, 0, none⟩ = some (.string sec) := by rw [HB1.out.cell (p := ⟨w.heap.size, 0, none⟩) (by show w.heap.size < _; omega)]; exact a0
  have z1 : W1.cell? ⟨w.heap.size + 1, 0, none⟩ = some (.int .i64 idx) := by rw [HB1.out.cell (p := ⟨w.heap.size + 1, 0, none⟩) (by show w.heap.size + 1 < _; omega)]; exact a1
  rw [← HW1.out]
  clear a0 a1 e1
  gi_wp2_with fail
  refine ⟨trivial, ?_⟩
  refine (sdigits_any 5 msg _).mono ?_
  rintro e w2 ⟨rfl, rfl⟩
  gi_wp2_with fail
  obtain ⟨W2, HW2⟩ : ∃ x, Hid (x = (W1.alloc (.cells #[.int .i64 idx, .slice none 0 0, .slice none 0 0] 24)).alloc (.cells #[.string msg] 9)) := ⟨_, Lib.hid rfl⟩
  have hz2 : W2.heap.size = W1.heap.size + 1 + 1 := by rw [HW2.out]; simp
  have hBox : W2.cell? ⟨W1.heap.size + 1, 0, none⟩ = some (.string msg) := by rw [HW2.out, cell_alloc, size_alloc, if_pos rfl]; rfl
  have HWe : Hid (Whole W2 W1.heap.size 24 #[.int .i64 idx, .slice none 0 0, .slice none 0 0]) := Lib.hid (by rw [HW2.out]; exact (Whole.new _ _ _).alloc _)
  have HB2 : Hid (Below W1.heap.size W1 W2) := Lib.hid (by rw [HW2.out]; exact ((Below.refl _ _).alloc (Nat.le_refl _) _).alloc (by rw [size_alloc]; omega) _)
  have hz1 := HB1.out.size
  rw [← HW2.out]
  have HI0 : Hid (SigI sec idx msg W1.heap.size [] W2 ∧ Below W1.heap.size W2 W2) := Lib.hid ⟨⟨none, 0, HWe.out, World.ownsRow_nil _ _ _ _⟩, Below.refl _ _⟩
  refine wpIn_rangeFunc_ownG hro hone (gf := 51) (lb := #[.pointer (some ⟨W1.heap.size + 1, 0, none⟩)]) rfl trivial (enters_of Tryd.func51 (by kernel_rfl) rfl)
    (digits_stops 5 (by omega) msg hm (W1.heap.size + 1) W2 hBox) (fun _ _ => trivial) (fun _ _ _ _ _ _ _ _ => trivial) (Below.refl _ _) (fun _ => rfl)
    (fun pre W => SigI sec idx msg W1.heap.size pre W ∧ Below W1.heap.size W2 W) (fun _ _ _ => False)
    (OwnFrom.and (Own.from (fun s A B row hs hg hr => by
      obtain ⟨eo, ec, h1, h2⟩ := hs
      exact ⟨eo, ec, whole_kept h1 hg hr, owns_kept' h2 hg hr⟩) _) (ownFrom_below (by omega) (by omega)))
    (fun _ _ _ _ _ h _ _ => h.elim) HI0.out ?act ?assign ?body ?done ?stop
  case assign =>
    intro l' x W K hK
    gi_wp2
    exact hK
  case stop =>
    rintro D c pre W _ _ h
    exact h.elim
  case body =>
    rintro l' pre x W ⟨⟨eo, ec, hwh, hrw⟩, hB⟩ hlt
    obtain ⟨q, Hq⟩ : ∃ q, Hid (q = x.val) := ⟨_, Lib.hid rfl⟩
    obtain ⟨d, Hd⟩ : ∃ d, Hid (d = Sgn.dAt msg x.val) := ⟨_, Lib.hid rfl⟩
    have hq18 : q < 18 := by rw [Hq.out]; exact x.isLt
    have hd15 : d ≤ 15 := by rw [Hd.out]; exact Sgn.dAt_le _ _
    obtain ⟨np, Hnp⟩ : ∃ n, Hid (n = pre.length) := ⟨_, Lib.hid rfl⟩
    rw [← Hnp.out] at hlt hwh hrw
    have HWh := Lib.hid hwh
    have HRw := Lib.hid hrw
    have HBw : Hid (Below w.heap.size w W) := Lib.hid (HB0.out.trans ((HB1.out.mono (by omega)).trans ((HB2.out.trans hB).mono (by omega))))
    have HBW := Lib.hid hB
    have s0 : W.cell? ⟨w.heap.size, 0, none⟩ = some (.string sec) := by rw [HBW.out.cell (p := ⟨w.heap.size, 0, none⟩) (by show w.heap.size < _; omega), HB2.out.cell (p := ⟨w.heap.size, 0, none⟩) (by show w.heap.size < _; omega)]; exact z0
    have s1 : W.cell? ⟨w.heap.size + 1, 0, none⟩ = some (.int .i64 idx) := by rw [HBW.out.cell (p := ⟨w.heap.size + 1, 0, none⟩) (by show w.heap.size + 1 < _; omega), HB2.out.cell (p := ⟨w.heap.size + 1, 0, none⟩) (by show w.heap.size + 1 < _; omega)]; exact z1
    have s2 : W.cell? ⟨W1.heap.size, 1, none⟩ = some (.slice eo np ec) := HWh.out.cell 1
    obtain ⟨C, HC⟩ : ∃ C : World → Prop, Hid (C = fun w' => w'.cell? ⟨w.heap.size, 0, none⟩ = some (.string sec) ∧ w'.cell? ⟨w.heap.size + 1, 0, none⟩ = some (.int .i64 idx) ∧ w'.cell? ⟨W1.heap.size, 1, none⟩ = some (.slice eo np ec)) := ⟨_, Lib.hid rfl⟩
    have HCb : Hid (∀ X, Below W.heap.size W X → C X) := Lib.hid fun X hX => by
      rw [HC.out]
      exact ⟨(hX.cell (p := ⟨w.heap.size, 0, none⟩) (lt_of_cell s0)).trans s0, (hX.cell (p := ⟨w.heap.size + 1, 0, none⟩) (lt_of_cell s1)).trans s1, (hX.cell (p := ⟨W1.heap.size, 1, none⟩) (lt_of_cell s2)).trans s2⟩
    have hC2 : Hid (∀ w', C w' → w'.cell? ⟨w.heap.size, 0, none⟩ = some (.string sec) ∧ w'.cell? ⟨w.heap.size + 1, 0, none⟩ = some (.int .i64 idx) ∧ w'.cell? ⟨W1.heap.size, 1, none⟩ = some (.slice eo np ec)) := Lib.hid fun w' h => by rw [HC.out] at h; exact h
    have hC3 : Hid (∀ w', w'.cell? ⟨w.heap.size, 0, none⟩ = some (.string sec) → w'.cell? ⟨w.heap.size + 1, 0, none⟩ = some (.int .i64 idx) → w'.cell? ⟨W1.heap.size, 1, none⟩ = some (.slice eo np ec) → C w') := Lib.hid fun w' h1 h2 h3 => by rw [HC.out]; exact ⟨h1, h2, h3⟩
    have hne : Nonempty (Cls C) := ⟨⟨W, HCb.out W (Below.refl _ _)⟩⟩
    have e1 : ∀ X : Cls C, X.w.cell? ⟨w.heap.size, 0, none⟩ = some (.string sec) := fun X => (hC2.out X.w X.out).1
    have e2 : ∀ X : Cls C, X.w.cell? ⟨w.heap.size + 1, 0, none⟩ = some (.int .i64 idx) := fun X => (hC2.out X.w X.out).2.1
    have e3 : ∀ X : Cls C, X.w.cell? ⟨W1.heap.size, 1, none⟩ = some (.slice eo np ec) := fun X => (hC2.out X.w X.out).2.2
    clear hwh hrw hB s0 s1 s2
    rw [← Hd.out, ← Hq.out]
    gi_wp2_with fail
    refine wpIn_region_held [0, 1, 2, 3, 4, 6] [5, 7, 8, 9, 10, 11] [9, 10, 11] (fun w' => ∃ X : Cls C, w' = X.w) (by kernel_rfl) (by kernel_rfl) rfl (by kernel_rfl) (by kernel_rfl) (fun _ _ _ _ h => h) ⟨⟨W.drew, HCb.out _ (Below.refl _ _).drew⟩, rfl⟩ ?_
    simp only [List.filterMap_cons, List.filterMap_nil, List.getElem?_toArray, List.getElem?_cons_zero, List.getElem?_cons_succ]
    refine (show wpQuiet _ _ _ _ (_ :: _ :: _ :: _ :: _ :: _ :: []) _ from ?_)
    repeat (go_big_quiet_step (fail))
    refine wpQuiet_nil ?_
    have HTW : Hid (Tab W) := Lib.hid (HT.out.below HBw.out)
    obtain ⟨sv, Hsv⟩ : ∃ y, Hid (y = Sgn.startV sec idx q) := ⟨_, Lib.hid rfl⟩
    have HSt : Hid (∀ X, Below W.heap.size W X → Calls Tryd.prog 32 #[.string sec, .int .i64 idx, .int .i64 q] X fun e w' => e = .returned (.string sv) ∧ Below X.heap.size X w') := Lib.hid fun X hX => by
      rw [Hsv.out]; exact start_any sec hs idx q (by omega) (by omega) X (HTW.out.below hX)
    have HCh := Lib.hid fun (X : World) => chain_any sv (by rw [Hsv.out, startV_size]; decide) d (by omega) X
    obtain ⟨cv, Hcv⟩ : ∃ y, Hid (y = Sgn.chainV d sv) := ⟨_, Lib.hid rfl⟩
    rw [← Hcv.out] at HCh
    refine wpTail_cons rfl rfl fun K hK => ?_
    go_simp
    refine ⟨trivial, ?_⟩
    refine (CallsIn.inRound l' (callsIn_wide.2 (HSt.out _ (Below.refl _ _).drew))).mono ?_
    rintro e X0 ⟨rfl, hb⟩
    have HX0 : Hid (Below W.heap.size W X0) := Lib.hid (below_step (Below.refl _ _).drew hb)
    refine hK _ _ (fun _ => ⟨⟨X0, HCb.out _ HX0.out⟩, rfl⟩) ?_
    clear hK K hb
    refine wpTail_cons rfl rfl fun K hK => ?_
    go_simp
    refine ⟨trivial, ?_⟩
    refine (CallsIn.inRound l' (callsIn_wide.2 (HCh.out _))).mono ?_
    rintro e X1 ⟨rfl, hb⟩
    have HX1 : Hid (Below W.heap.size W X1) := Lib.hid (below_step HX0.out hb)
    refine hK _ _ (fun _ => ⟨⟨X1, HCb.out _ HX1.out⟩, rfl⟩) ?_
    clear hK K hb
    refine wpTail_cons rfl rfl fun K hK => ?_
    go_simp
    refine hK _ _ (fun _ => ⟨⟨X1.alloc (.cells #[.string cv] 9), HCb.out _ (HX1.out.alloc HX1.out.size _)⟩, rfl⟩) ?_
    clear hK K
    have HR1 : Hid (X1.ownsRow W1.heap.size 9 1 (.slice eo np ec) np (strC (pre.map (sigAt sec idx msg)))) := Lib.hid (owns_grown HRw.out HX1.out)
    have HW1' : Hid (Whole X1 W1.heap.size 24 #[.int .i64 idx, .slice eo np ec, .slice none 0 0]) := Lib.hid ((HX1.out.block _ HWh.out.lt).trans HWh.out)
    have HNw : Hid (∀ (i : Nat) (u : Value), [Value.string cv][i]? = some u → (X1.alloc (.cells #[.string cv] 9)).cell? ((⟨X1.heap.size, 0, none⟩ : Addr).add i) = some u) := Lib.hid (by
      intro i u hu
      have e : (⟨X1.heap.size, 0, none⟩ : Addr).add i = ⟨X1.heap.size, i, none⟩ := by unfold Addr.add; split <;> simp_all
      rw [e, cell_alloc, if_pos rfl]
      simpa using hu)
    have HBX : Hid (Below W1.heap.size W2 X1) := Lib.hid (HBW.out.trans (HX1.out.mono (by have := HBW.out.size; omega)))
    have hsX := HBX.out.size
    refine wpTail_cons rfl rfl fun K hK => ?_
    refine wpIn_append_lies _ (.tmp 36) (.tmp 43) 22 rfl W1.heap.size 9 i1 (.string ⟨#[]⟩) 1 16 Tryd.underlying22 hi1 hy0 hy1 hy2 rfl (by decide) (.slice eo np ec) np (strC (pre.map (sigAt sec idx msg))) (by simp [Act.eval]) (HR1.out.alloc _) ⟨X1.heap.size, 0, none⟩ 1 1 [.string cv] (by simp [Act.eval]) rfl HNw.out (by simp [Value.oneCell']) (by decide) (by unfold maxLen; omega) (by omega) (by rw [size_alloc]; omega) ?_
    intro g' cap' w10 hown hgrow _ _
    refine hK _ _ (fun h => absurd h (by decide)) ?_
    clear hK K
    have hne : (Value.slice eo np ec).ownBlock ≠ some W1.heap.size := owns_ne' HR1.out HW1'.out (by decide)
    have HC10 : Hid (Whole w10 W1.heap.size 24 #[.int .i64 idx, .slice eo np ec, .slice none 0 0]) := Lib.hid ((hgrow.block W1.heap.size (by rw [size_alloc]; have := HW1'.out.lt; omega) (fun hh => hne hh.symm)).trans (HW1'.out.alloc _))
    have u1 : w10.cell? ⟨W1.heap.size, 1, none⟩ = some (.slice eo np ec) := HC10.out.cell 1
    have u2 := HC10.out.frozen 1
    have HO := Lib.hid hown
    have HG := Lib.hid hgrow
    clear hown hgrow e1 e2 e3
    refine wpTail_cons rfl rfl fun K hK => ?_
    go_simp
    refine hK _ _ (fun h => absurd h (by decide)) ?_
    clear hK K
    refine wpTail_cons rfl rfl fun K hK => ?_
    go_simp
    refine hK _ _ (fun h => absurd h (by decide)) ?_
    refine ⟨?_, trivial, ⟨some ⟨g', 0, none⟩, cap', ?_, ?_⟩, ?_⟩
    · exact (keepsFrom_below HX1.out).trans (((KeepsOthers.alloc _ _).trans ((KeepsOthers.of_grownBy HG.out (fun j o e ho => owns_cells (HR1.out.alloc _) j o e ho)).trans (KeepsOthers.setCell _ _ _))).from _)
    · rw [List.length_append, ← Hnp.out]
      exact HC10.out.set 1 _
    · have hne2 : (Value.slice (some ⟨g', 0, none⟩) (np + 1) cap').ownBlock ≠ some W1.heap.size := owns_ne' HO.out HC10.out (by decide)
      have e : strC ((pre ++ [x]).map (sigAt sec idx msg)) = strC (pre.map (sigAt sec idx msg)) ++ [.string cv] := by
        rw [List.map_append, List.map_singleton, strC_snoc, Hcv.out, Hsv.out, Hd.out, Hq.out]; rfl
      rw [e, List.length_append, ← Hnp.out]
      exact HO.out.kept (row := some W1.heap.size) ⟨rfl, rfl, rfl, by simp, fun j _ hj => Below.heap_setCell _ _ _ _ (fun e => hj (by rw [e]))⟩ (Or.inr hne2)
    · exact Below.setCell ((HBX.out.alloc (by omega) _).grown HG.out (by rw [size_alloc]; omega) (fun j e => (HR1.out.lt j e).1)) (p := ⟨W1.heap.size, 1, none⟩) (Nat.le_refl _) _
  case done =>
    rintro D ys W hD hys ⟨⟨eo, ec, hwh, hrw⟩, hB⟩ hK
    have hl : ys.length = 18 := by have := congrArg List.length hys; rw [List.length_map, dpairs_len] at this; exact this
    rw [hl, sig_of sec idx msg hys] at hrw
    rw [hl] at hwh
    have hle : (Sgn.sigV sec idx msg).length = 18 := by simp [Sgn.sigV]
    have HWB : Hid (Below w.heap.size w W) := Lib.hid (HB0.out.trans ((HB1.out.mono (by omega)).trans ((HB2.out.trans hB).mono (by omega))))
    have s0 : W.cell? ⟨w.heap.size, 0, none⟩ = some (.string sec) := by rw [hB.cell (p := ⟨w.heap.size, 0, none⟩) (by show w.heap.size < _; omega), HB2.out.cell (p := ⟨w.heap.size, 0, none⟩) (by show w.heap.size < _; omega)]; exact z0
    have s1 : W.cell? ⟨w.heap.size + 1, 0, none⟩ = some (.int .i64 idx) := by rw [hB.cell (p := ⟨w.heap.size + 1, 0, none⟩) (by show w.heap.size + 1 < _; omega), HB2.out.cell (p := ⟨w.heap.size + 1, 0, none⟩) (by show w.heap.size + 1 < _; omega)]; exact z1
    have HSig : Hid (IsStrs W eo (Sgn.sigV sec idx msg)) := Lib.hid (strs_of_row hrw hle.symm)
    have HWh := Lib.hid hwh
    have HRs : Hid (W.ownsRow W1.heap.size 9 1 (.slice eo 18 ec) 18 (strC (Sgn.sigV sec idx msg))) := Lib.hid hrw
    have HKd := Lib.hid hK
    have HBW := Lib.hid hB
    have HTree := Lib.hid (tree_any sec hs h hh W (HT.out.below HWB.out))
    clear hwh hrw hys hle hB hK HI0 HWe
    gi_wp2_with fail
    refine ⟨trivial, ?_⟩
    refine (callsIn_wide.2 HTree.out).mono ?_
    rintro e W3 ⟨g, cap, rfl, hcap, hb3, hT⟩
    have hcap' : (h : Int) ≤ cap := by omega
    have hcap2 : h ≤ cap := by omega
    have HB3 := Lib.hid hb3
    have HIs := Lib.hid hT
    clear hb3 hT
    gi_wp2_with fail
    obtain ⟨B, HBq⟩ : ∃ x, Hid (x = W1.heap.size) := ⟨_, Lib.hid rfl⟩
    rw [← HBq.out] at HWh ⊢
    have hBW : B < W.heap.size := HWh.out.lt
    have HWh3 : Hid (Whole W3 B 24 #[.int .i64 idx, .slice eo 18 ec, .slice none 0 0]) := Lib.hid ((HB3.out.block B hBW).trans HWh.out)
    have hBW3 : B < W3.heap.size := HWh3.out.lt
    have hi1b : w.heap.size + 1 < B := by rw [HBq.out]; omega
    have t1 : W3.cell? ⟨w.heap.size + 1, 0, none⟩ = some (.int .i64 idx) := by rw [HB3.out.cell (p := ⟨w.heap.size + 1, 0, none⟩) (by show w.heap.size + 1 < _; omega)]; exact s1
    have hgB : g ≠ B := by
      rintro rfl
      obtain ⟨vo, vc, hc, _⟩ := HIs.out.levs 0 (by omega)
      rw [HWh3.out.cell 0] at hc
      cases hc
    gi_loopw [52] (fun i wr => ∃ n : Nat, n ≤ h ∧ i = .int .i64 n ∧ ∃ vo vc, Hid (Whole wr B 24 #[.int .i64 idx, .slice eo 18 ec, .slice vo n vc]) ∧ Hid (wr.ownsRow W3.heap.size 9 1 (.slice vo n vc) n (strC (pathUp sec h idx n))) ∧ Hid (Only (fun b => b = B) W3 wr)) (fun i _ => h - (intOf i).toNat)
    case atStart => exact ⟨0, by omega, rfl, none, 0, HWh3, Lib.hid (World.ownsRow_nil _ _ _ _), Lib.hid (Only.refl _ _)⟩
    case round =>
      obtain ⟨n, hn, rfl, vo, vc, HWc, HRow, HOn⟩ := hrel
      have u2 : wr.cell? ⟨B, 2, none⟩ = some (.slice vo n vc) := HWc.out.cell 2
      have u1 : wr.cell? ⟨w.heap.size + 1, 0, none⟩ = some (.int .i64 idx) := HOn.out.cell t1 (by show ¬ w.heap.size + 1 = B; omega)
      by_cases hlt : n < h
      · have hlt' : (n : Int) < h := by omega
        obtain ⟨lo, lc, hcell, hst⟩ := HIs.out.levs n (by omega)
        obtain ⟨M, HM⟩ : ∃ x, Hid (x = (Sgn.level sec h n).length) := ⟨_, Lib.hid rfl⟩
        rw [← HM.out] at hcell
        have hdv := Sgn.div_lt idx h n (by rw [← HN.out]; exact hidx) (by omega)
        obtain ⟨x, Hx⟩ : ∃ x, Hid (x = (idx / 2 ^ n) ^^^ 1) := ⟨_, Lib.hid rfl⟩
        have hxM : x < M := by
          rw [HM.out, Sgn.level_len sec h n (by omega), Hx.out]
          exact Sgn.xor_lt _ _ (by omega) (by omega) hdv
        have hxM' : (x : Int) < M := by omega
        have hx0 : (0 : Int) ≤ (x : Int) := by omega
        have hxb : bits BinOp.xor IntKind.i64 ((idx : Int) / 2 ^ n) 1 = (x : Int) := by rw [Hx.out]; exact xor_at idx n (by omega)
        obtain ⟨bl, ol, rfl, hbl, hcl⟩ := strs_at hst (k := x) (by rw [← HM.out]; exact hxM)
        obtain ⟨sb, Hsb⟩ : ∃ y, Hid (y = Sgn.at_ (Sgn.level sec h n) x) := ⟨_, Lib.hid rfl⟩
        have hxl : x < (Sgn.level sec h n).length := by rw [← HM.out]; exact hxM
        have hcx : W3.cell? ⟨bl, ol + x, none⟩ = some (.string sb) := by rw [hcl x hxl, Hsb.out, Sgn.at_get hxl]
        have hblB : bl ≠ B := by
          rintro rfl
          rw [HWh3.out.cell (ol + x)] at hcx
          have : ∀ k : Nat, (#[Value.int .i64 idx, .slice eo 18 ec, .slice none 0 0] : Array Value)[k]? ≠ some (Value.string sb) := by
            intro k hk
            rcases k with _ | _ | _ | k <;> simp at hk
          exact this _ hcx
        have u3 : wr.cell? ⟨bl, ol + x, none⟩ = some (.string sb) := HOn.out.cell hcx hblB
        have u4 : wr.cell? ⟨g, n, none⟩ = some (.slice (some ⟨bl, ol, none⟩) M lc) := HOn.out.cell hcell hgB
        have e1 : ∀ X : Grown wr, X.w.cell? ⟨B, 2, none⟩ = some (.slice vo n vc) := fun X => (X.cell (lt_of_cell u2)).trans u2
        have e2 : ∀ X : Grown wr, X.w.cell? ⟨w.heap.size + 1, 0, none⟩ = some (.int .i64 idx) := fun X => (X.cell (lt_of_cell u1)).trans u1
        have e3 : ∀ X : Grown wr, X.w.cell? ⟨bl, ol + x, none⟩ = some (.string sb) := fun X => (X.cell (lt_of_cell u3)).trans u3
        have hn8 : (n : Int) < 8 := by omega
        clear hcl hst hcell hcx hdv
        gi_wp2_with fail
        refine wpIn_region_calm [0, 1, 2, 3, 4, 5, 6, 7, 8] [9, 10, 11, 12] [10, 11, 12] (fun w' => ∃ X : Grown wr, w' = X.w) (by kernel_rfl) (by kernel_rfl) rfl (by kernel_rfl) (by kernel_rfl) ⟨⟨wr.drew, (Below.refl _ _).drew⟩, rfl⟩ ?_
        simp only [List.filterMap_cons, List.filterMap_nil, List.getElem?_toArray, List.getElem?_cons_zero, List.getElem?_cons_succ]
        refine (show wpQuiet _ _ _ _ (_ :: _ :: _ :: _ :: _ :: _ :: _ :: _ :: _ :: []) _ from ?_)
        repeat (go_big_quiet_step (fail))
        refine wpQuiet_nil ?_
        have HR1 : Hid (wr.drew.ownsRow W3.heap.size 9 1 (.slice vo n vc) n (strC (pathUp sec h idx n))) := Lib.hid HRow.out
        have HW1' : Hid (Whole wr.drew B 24 #[.int .i64 idx, .slice eo 18 ec, .slice vo n vc]) := Lib.hid HWc.out
        have HNw := Lib.hid (newStr wr.drew sb)
        refine wpTail_cons rfl rfl fun K hK => ?_
        go_simp
        refine hK _ _ (fun _ => ⟨⟨wr.drew.alloc (.cells #[.string sb] 9), (Below.refl _ _).drew.alloc (Nat.le_refl _) _⟩, rfl⟩) ?_
        clear hK K
        refine wpTail_cons rfl rfl fun K hK => ?_
        refine wpIn_append_lies _ (.tmp 58) (.tmp 66) 22 rfl W3.heap.size 9 i1 (.string ⟨#[]⟩) 1 16 Tryd.underlying22 hi1 hy0 hy1 hy2 rfl (by decide) (.slice vo n vc) n (strC (pathUp sec h idx n)) (by simp [Act.eval]) (HR1.out.alloc _) ⟨wr.drew.heap.size, 0, none⟩ 1 1 [.string sb] (by simp [Act.eval]) rfl HNw.out (by simp [Value.oneCell']) (by decide) (by unfold maxLen; omega) (by omega) (by show W3.heap.size ≤ (wr.alloc _).heap.size; rw [size_alloc]; have := HOn.out.size; omega) ?_
        intro g' cap' w10 hown hgrow _ _
        refine hK _ _ (fun h => absurd h (by decide)) ?_
        clear hK K
        have hne : (Value.slice vo n vc).ownBlock ≠ some B := owns_ne' HR1.out HW1'.out (by decide)
        have HC10 : Hid (Whole w10 B 24 #[.int .i64 idx, .slice eo 18 ec, .slice vo n vc]) := Lib.hid ((hgrow.block B (by show B < (wr.alloc _).heap.size; rw [size_alloc]; have := HWc.out.lt; omega) (fun hh => hne hh.symm)).trans (HW1'.out.alloc _))
        have y1 : w10.cell? ⟨B, 2, none⟩ = some (.slice vo n vc) := HC10.out.cell 2
        have y2 := HC10.out.frozen 2
        have HO := Lib.hid hown
        have HOn10 : Hid (Only (fun b => b = B) W3 w10) := Lib.hid ((HOn.out.drew.alloc _).next (G := fun b => (Value.slice vo n vc).ownBlock = some b) (Only.of_grown hgrow fun k e => e) (fun b hb => Or.inr (HR1.out.lt b hb).1))
        clear hown hgrow e1 e2 e3 u1 u2 u3 u4
        refine wpTail_cons rfl rfl fun K hK => ?_
        go_simp
        refine hK _ _ (fun h => absurd h (by decide)) ?_
        clear hK K
        refine wpTail_cons rfl rfl fun K hK => ?_
        go_simp
        refine hK _ _ (fun h => absurd h (by decide)) ?_
        clear hK K
        refine wpTail_calm ?_
        gi_wp2_with fail
        go_roundw
        case rel =>
          refine ⟨n + 1, by omega, by go_num, some ⟨g', 0, none⟩, cap', Lib.hid (HC10.out.set 2 _), Lib.hid ?_, Lib.hid (HOn10.out.setCell (Or.inl rfl) _)⟩
          have hne2 : (Value.slice (some ⟨g', 0, none⟩) (n + 1) cap').ownBlock ≠ some B := owns_ne' HO.out HC10.out (by decide)
          have e : strC (pathUp sec h idx (n + 1)) = strC (pathUp sec h idx n) ++ [.string sb] := by rw [pathUp_succ, strC_snoc, Hsb.out, Hx.out]
          rw [e]
          exact HO.out.kept (row := some B) ⟨rfl, rfl, rfl, by simp, fun j _ hj => Below.heap_setCell _ _ _ _ (fun e => hj (by rw [e]))⟩ (Or.inr hne2)
        case measure => simp [intOf]; omega
      · obtain rfl : n = h := by omega
        have u0 : wr.cell? ⟨B, 0, none⟩ = some (.int .i64 idx) := HWc.out.cell 0
        have u1' : wr.cell? ⟨B, 1, none⟩ = some (.slice eo 18 ec) := HWc.out.cell 1
        obtain ⟨R, HRq⟩ : ∃ x, Hid (x = w.heap.size + 1 + 1) := ⟨_, Lib.hid rfl⟩
        have hRB : R < B := by rw [HRq.out, HBq.out]; omega
        have hRW0 : R < W0.heap.size := by rw [HRq.out]; omega
        have HWR : Hid (Whole wr R 24 #[.int .i64 0, .slice none 0 0, .slice none 0 0]) := Lib.hid (by
          have h1 := HWr.out
          rw [← HRq.out] at h1
          have h2 := (HB1.out.block R hRW0).trans h1
          have h3 := (HB2.out.block R (by rw [← HBq.out]; exact hRB)).trans h2
          have h4 := (HBW.out.block R (by rw [← HBq.out]; exact hRB)).trans h3
          have h5 := (HB3.out.block R (by omega)).trans h4
          exact HOn.out.whole h5 (by omega))
        have c0 : wr.cell? ⟨R, 0, none⟩ = some (.int .i64 0) := HWR.out.cell 0
        have c1 : wr.cell? ⟨R, 1, none⟩ = some (.slice none 0 0) := HWR.out.cell 1
        have c2 : wr.cell? ⟨R, 2, none⟩ = some (.slice none 0 0) := HWR.out.cell 2
        have f0 := HWR.out.frozen 0
        have f1 := HWR.out.frozen 1
        have f2 := HWR.out.frozen 2
        rw [← HRq.out]
        gi_wp2_with fail
        have HO5 : Hid (Only (fun b => b = R) wr (((wr.setCell ⟨R, 0, none⟩ (.int .i64 idx)).setCell ⟨R, 1, none⟩ (.slice eo 18 ec)).setCell ⟨R, 2, none⟩ (.slice vo n vc))) := Lib.hid ((((Only.refl (fun b => b = R) wr).setCell (p := ⟨R, 0, none⟩) (Or.inl rfl) _).setCell (p := ⟨R, 1, none⟩) (Or.inl rfl) _).setCell (p := ⟨R, 2, none⟩) (Or.inl rfl) _)
        have HWe : Hid (Whole (((wr.setCell ⟨R, 0, none⟩ (.int .i64 idx)).setCell ⟨R, 1, none⟩ (.slice eo 18 ec)).setCell ⟨R, 2, none⟩ (.slice vo n vc)) R 24 #[.int .i64 idx, .slice eo 18 ec, .slice vo n vc]) := Lib.hid (((HWR.out.set 0 _).set 1 _).set 2 _)
        generalize (((wr.setCell ⟨R, 0, none⟩ (.int .i64 idx)).setCell ⟨R, 1, none⟩ (.slice eo 18 ec)).setCell ⟨R, 2, none⟩ (.slice vo n vc)) = W5 at HWe HO5 ⊢
        have HDB : Hid (wr.heap[D]? = some (.deferred (some []))) := Lib.hid (by
          have hDW : D < W.heap.size := (Array.getElem?_eq_some_iff.1 HKd.out).1
          have h3 := (HB3.out.block D hDW).trans HKd.out
          have hne : D ≠ B := by
            rintro rfl
            have h4 : W3.heap[D]? = some (.cells _ _ _) := HWh3.out
            rw [h3] at h4
            cases h4
          exact (HOn.out.block D (by have := HB3.out.size; omega) hne).trans h3)
        have hDR : D ≠ R := by
          rintro rfl
          have h4 : wr.heap[D]? = some (.cells _ _ _) := HWR.out
          rw [HDB.out] at h4
          cases h4
        have HD5 : Hid (W5.heap[D]? = some (.deferred (some []))) := Lib.hid ((HO5.out.block D (Array.getElem?_eq_some_iff.1 HDB.out).1 hDR).trans HDB.out)
        have HOD : Hid (∀ o', Only (fun b => b = D) W5 (W5.putObj D o')) := Lib.hid fun o' => by
          have hb := belowK_b (n₀ := 0) (w := w) (Nat.zero_le _) W5 D _ o' (by omega) HD5.out rfl rfl
          exact ⟨hb.os, hb.tape, hb.output, hb.size, fun k _ hne => World.putObj_heap_other hne⟩
        have HSg : Hid (∀ o', (W5.putObj D o').ownsRow W1.heap.size 9 1 (.slice eo 18 ec) 18 (strC (Sgn.sigV sec idx msg))) := Lib.hid fun o' => by
          have h1 := owns_grown HRs.out HB3.out
          have hge : ∀ b, (Value.slice eo 18 ec).ownBlock = some b → B ≤ b := fun b e => by rw [HBq.out]; exact (HRs.out.lt b e).1
          have h2 := owns_only h1 HOn.out (fun b e => by rintro rfl; exact owns_ne' h1 HWh3.out (by decide) e)
          have h3 := owns_only h2 HO5.out (fun b e => by have := hge b e; show ¬ b = R; omega)
          exact owns_only h3 (HOD.out o') (fun b e => by rintro rfl; exact owns_cells' h3 e HD5.out)
        have HPt : Hid (∀ o', (W5.putObj D o').ownsRow W3.heap.size 9 1 (.slice vo n vc) n (strC (pathUp sec n idx n))) := Lib.hid fun o' => by
          have h3 := owns_only HRow.out HO5.out (fun b e => by have := (HRow.out.lt b e).1; show ¬ b = R; omega)
          exact owns_only h3 (HOD.out o') (fun b e => by rintro rfl; exact owns_cells' h3 e HD5.out)
        have HBe : Hid (∀ o', Below w.heap.size w (W5.putObj D o')) := Lib.hid fun o' => by
          have h1 : Only (fun b => B ≤ b ∨ b = R ∨ b = D) W3 (W5.putObj D o') := ((HOn.out.mono (fun b hb => Or.inl (by omega))).next HO5.out (fun b hb => Or.inl (Or.inr (Or.inl hb)))).next (HOD.out o') (fun b hb => Or.inl (Or.inr (Or.inr hb)))
          have h2 := HWB.out.size
          have h3 := HB3.out.size
          exact (HWB.out.trans (HB3.out.mono h2)).trans (h1.below (B := w.heap.size) (by omega) (fun b hb => by
            have := HRq.out
            rcases hb with hb | hb | hb <;> omega))
        have HWd : Hid (∀ o', Whole (W5.putObj D o') R 24 #[.int .i64 idx, .slice eo 18 ec, .slice vo n vc]) := Lib.hid fun o' => (HOD.out o').whole HWe.out (fun e => hDR e.symm)
        refine ⟨by simp, .inl ⟨_, _, rfl, run_takeDeferred HD5.out, ?_⟩⟩
        have HSg' := Lib.hid (HSg.out (.deferred none))
        have HPt' := Lib.hid (HPt.out (.deferred none))
        have HBe' := Lib.hid (HBe.out (.deferred none))
        have HWd' := Lib.hid (HWd.out (.deferred none))
        generalize W5.putObj D (.deferred none) = W6 at HSg' HPt' HBe' HWd' ⊢
        have d0 : W6.cell? ⟨R, 0, none⟩ = some (.int .i64 idx) := HWd'.out.cell 0
        have d1 : W6.cell? ⟨R, 1, none⟩ = some (.slice eo 18 ec) := HWd'.out.cell 1
        have d2 : W6.cell? ⟨R, 2, none⟩ = some (.slice vo n vc) := HWd'.out.cell 2
        refine ⟨.tuple #[.agg #[.int .i64 idx, .slice eo 18 ec, .slice vo n vc], .int .i64 0], by simp [results, Tryd.f15, go_sem, d0, d1, d2], ⟨eo, vo, ec, vc, rfl, strs_of_row HSg'.out (by simp [Sgn.sigV]), strs_of_row (l := pathUp sec n idx n) HPt'.out (by simp [pathUp]), owns_cap' HSg'.out, owns_cap' HPt'.out⟩, HBe'.out⟩

end Go.Proofs.YtfnbdjjobndgfaaDoor

/- The head of the laws on signatures. -/
namespace Go.Proofs.YtfnbdjjobndgfaaDoor
open Go.RowKit

def secT : ByteArray := ⟨#[115, 101, 99, 114, 101, 116]⟩
def msgT : ByteArray := ⟨#[109, 101, 115, 115, 97, 103, 101]⟩

theorem IsStrs.take {w : World} {ao : Option Addr} {ss : List ByteArray} (h : IsStrs w ao ss) (k : Nat) : IsStrs w ao (ss.take k) := by
  rcases h with h | ⟨bk, off, h1, h2, h3⟩
  · subst h; exact Or.inl (by simp)
  · refine Or.inr ⟨bk, off, h1, h2, fun q hq => ?_⟩
    rw [List.getElem_take]
    exact h3 q (by rw [List.length_take] at hq; omega)

set_option maxRecDepth 100000 in
set_option maxHeartbeats 4000000 in
theorem head_any (w : World) (ht : Tab w) :
    Calls Tryd.prog 10 #[] w fun e w' => e = .returned (.bool true) ∧ Below w.heap.size w w' := by
  have HT := Lib.hid ht
  obtain ⟨pub, Hpub⟩ : ∃ x, Hid (x = Sgn.rootV secT 2) := ⟨_, Lib.hid rfl⟩
  obtain ⟨sig, Hsig⟩ : ∃ x, Hid (x = Sgn.sigV secT 3 msgT) := ⟨_, Lib.hid rfl⟩
  obtain ⟨path, Hpath⟩ : ∃ x, Hid (x = Sgn.pathV secT 2 3) := ⟨_, Lib.hid rfl⟩
  have HP1 := Lib.hid (public_good secT (by decide) 2 (by decide) w ht)
  rw [← Hpub.out] at HP1
  have HP2 := Lib.hid fun (X : World) => public_bad secT 9 (by decide) X
  have HS1 := Lib.hid fun (X : World) (hX : Below w.heap.size w X) => callsIn_wide.1 (sign_good secT msgT (by decide) (by decide) 2 3 (by decide) (by decide) X (HT.out.below hX))
  rw [← Hsig.out, ← Hpath.out] at HS1
  have HS2 := Lib.hid fun (X : World) => (show Calls Tryd.prog 15 #[.string secT, .int .i64 2, .int .i64 4, .string msgT] X (fun e w' => e = .returned (.tuple #[.agg #[.int .i64 0, .slice none 0 0, .slice none 0 0], .int .i64 1]) ∧ Below X.heap.size X w') from sign_bad secT msgT 2 4 (Or.inr (Or.inr ⟨2, rfl, by decide, by decide⟩)) X)
  have hl1 : sig.length = 18 := by rw [Hsig.out, Sgn.sig_len]
  have hl2 : path.length = 2 := by rw [Hpath.out, Sgn.path_len]
  have hi1 : (sig.all fun s => Dig.isB s.data.toList) = true := by rw [Hsig.out]; exact Sgn.sig_is _ _ _
  have hi2 : (path.all fun s => Dig.isB s.data.toList) = true := by rw [Hpath.out]; exact Sgn.path_is _ _ _ (by decide) (by decide)
  have hz : ∀ {l : List ByteArray}, (l.all fun s => Dig.isB s.data.toList) = true → ∀ s ∈ l, s.size ≤ 140737488351232 := fun h s hs => by
    have : s.size = 16 := (Sgn.isB_parts (List.all_eq_true.1 h s hs)).1
    omega
  have hv1 : Sgn.verifyB pub msgT 3 sig path = true := by rw [Hpub.out, Hsig.out, Hpath.out]; exact Sgn.verify_sig secT 2 3 msgT (by decide) (by decide)
  have hv2 : Sgn.verifyB pub msgT 3 sig (path.take 1) = false := by
    unfold Sgn.verifyB Sgn.formB
    rw [List.length_take, hl2, decide_eq_false (show ¬ (3 : Int) < ((2 ^ (min 1 2) : Nat) : Int) by decide)]
    simp
  have hv4 : Sgn.verifyB ⟨#[]⟩ msgT 3 sig path = false := by
    unfold Sgn.verifyB
    rw [decide_eq_false (fun h => by
      have := Sgn.rootOf_size msgT (Int.toNat 3) sig path
      rw [h] at this
      cases this), Bool.and_false]
  have HV : Hid (∀ (X : World) (p : ByteArray) (b : Bool) (so po : Option Addr) (c1 c2 : Nat), Tab X → Sgn.verifyB p msgT 3 sig path = b → IsStrs X so sig → IsStrs X po path → Calls Tryd.prog 18 #[.string p, .string msgT, .agg #[.int .i64 3, .slice so 18 c1, .slice po 2 c2]] X fun e w' => e = .returned (.bool b) ∧ Below X.heap.size X w') := Lib.hid fun X p b so po c1 c2 hX hb h1 h2 => by
    have := verify_any p msgT (by decide) 3 so po c1 c2 sig path (by omega) (by omega) (hz hi1) (hz hi2) X hX h1 h2
    rw [hl1, hl2, hb] at this
    exact this
  have HV2 : Hid (∀ (X : World) (so po : Option Addr) (c1 c2 : Nat), Tab X → IsStrs X so sig → IsStrs X po path → Calls Tryd.prog 18 #[.string pub, .string msgT, .agg #[.int .i64 3, .slice so 18 c1, .slice po 1 c2]] X fun e w' => e = .returned (.bool false) ∧ Below X.heap.size X w') := Lib.hid fun X so po c1 c2 hX h1 h2 => by
    have := verify_any pub msgT (by decide) 3 so po c1 c2 sig (path.take 1) (by omega) (by rw [List.length_take]; omega) (hz hi1) (fun s hs => hz hi2 s (List.mem_of_mem_take hs)) X hX h1 (h2.take 1)
    rw [hl1, List.length_take, hl2, hv2] at this
    exact this
  have HV3 : Hid (∀ (X : World) (so po : Option Addr) (c1 c2 : Nat), Calls Tryd.prog 18 #[.string pub, .string msgT, .agg #[.int .i64 3, .slice so 17 c1, .slice po 2 c2]] X fun e w' => e = .returned (.bool false) ∧ Below X.heap.size X w') := Lib.hid fun X so po c1 c2 =>
    bad1 pub msgT 3 so po c1 c2 17 2 (by decide) (by decide) (by decide) X
  have Hv1 := Lib.hid hv1
  have Hv4 := Lib.hid hv4
  clear hl1 hl2 hi1 hi2 hz hv1 hv2 hv4
  clear ht
  go_enter Tryd.func10, Tryd.ntmps10
  go_wp2_with fail
  refine HP1.out.mono ?_
  rintro e w1 ⟨rfl, hb⟩
  have HB1 := Lib.hid hb
  clear hb
  go_wp2_with fail
  refine (HP2.out _).mono ?_
  rintro e w2 ⟨rfl, hb⟩
  have HB2 := Lib.hid (HB1.out.trans (hb.mono HB1.out.size))
  clear hb
  go_wp2_with fail
  refine (HS1.out _ HB2.out).mono ?_
  rintro e w3 ⟨⟨so, po, c1, c2, rfl, hs1, hs2, hc1, hc2⟩, hb⟩
  have HB3 := Lib.hid (HB2.out.trans (hb.mono HB2.out.size))
  have HA1 := Lib.hid hs1
  have HA2 := Lib.hid hs2
  clear hb hs1 hs2
  go_wp2_with fail
  refine (HS2.out _).mono ?_
  rintro e w4 ⟨rfl, hb⟩
  have h34 := hb
  clear hb
  have q0 : w4.cell? ⟨w3.heap.size, 0, none⟩ = some (.int .i64 3) := by rw [h34.cell (p := ⟨w3.heap.size, 0, none⟩) (by show w3.heap.size < _; rw [size_alloc]; omega), cell_alloc, if_pos rfl]; rfl
  have q1 : w4.cell? ⟨w3.heap.size, 1, none⟩ = some (.slice so 18 c1) := by rw [h34.cell (p := ⟨w3.heap.size, 1, none⟩) (by show w3.heap.size < _; rw [size_alloc]; omega), cell_alloc, if_pos rfl]; rfl
  have q2 : w4.cell? ⟨w3.heap.size, 2, none⟩ = some (.slice po 2 c2) := by rw [h34.cell (p := ⟨w3.heap.size, 2, none⟩) (by show w3.heap.size < _; rw [size_alloc]; omega), cell_alloc, if_pos rfl]; rfl
  have HB4 : Hid (Below w3.heap.size w3 w4) := Lib.hid ((Below.refl _ _).alloc (Nat.le_refl _) _ |>.trans (h34.mono (by rw [size_alloc]; omega)))
  obtain ⟨A, HAq⟩ : ∃ x, Hid (x = w3.heap.size) := ⟨_, Lib.hid rfl⟩
  have hA4 : A < w4.heap.size := by rw [HAq.out]; exact lt_of_cell q0
  rw [← HAq.out] at q0 q1 q2 ⊢
  have n0 : ¬ A = w4.heap.size := by omega
  have n1 : ¬ A = w4.heap.size + 1 := by omega
  have n2 : ¬ A = w4.heap.size + 1 + 1 := by omega
  have n3 : A < w4.heap.size + 1 := by omega
  have n4 : A < w4.heap.size + 1 + 1 := by omega
  clear h34
  go_wp2_with fail
  generalize hso : Option.map _ so = so'
  clear hso
  obtain ⟨W5, HW5⟩ : ∃ x, Hid (x = ((w4.alloc (.cells #[.int .i64 0, .slice none 0 0, .slice none 0 0] 24)).alloc (.cells #[.int .i64 3, .slice so 18 c1, .slice po 1 c2] 24)).alloc (.cells #[.int .i64 3, .slice so' 17 (c1 - 1), .slice po 2 c2] 24)) := ⟨_, Lib.hid rfl⟩
  have HB5 : Hid (Below w4.heap.size w4 W5) := Lib.hid (by
    rw [HW5.out]
    exact (((Below.refl _ _).alloc (Nat.le_refl _) _).alloc (by rw [size_alloc]; omega) _).alloc (by rw [size_alloc, size_alloc]; omega) _)
  have HS1' : Hid (Whole W5 (w4.heap.size + 1) 24 #[.int .i64 3, .slice so 18 c1, .slice po 1 c2]) := Lib.hid (by
    rw [HW5.out]
    have := (Whole.new (w4.alloc (.cells #[.int .i64 0, .slice none 0 0, .slice none 0 0] 24)) 24 #[.int .i64 3, .slice so 18 c1, .slice po 1 c2]).alloc (.cells #[.int .i64 3, .slice so' 17 (c1 - 1), .slice po 2 c2] 24)
    rwa [size_alloc] at this)
  have HS2' : Hid (Whole W5 (w4.heap.size + 1 + 1) 24 #[.int .i64 3, .slice so' 17 (c1 - 1), .slice po 2 c2]) := Lib.hid (by
    rw [HW5.out]
    have := Whole.new ((w4.alloc (.cells #[.int .i64 0, .slice none 0 0, .slice none 0 0] 24)).alloc (.cells #[.int .i64 3, .slice so 18 c1, .slice po 1 c2] 24)) 24 #[.int .i64 3, .slice so' 17 (c1 - 1), .slice po 2 c2]
    rwa [size_alloc, size_alloc] at this)
  rw [← HW5.out]
  obtain ⟨S1, HSq1⟩ : ∃ x, Hid (x = w4.heap.size + 1) := ⟨_, Lib.hid rfl⟩
  obtain ⟨S2, HSq2⟩ : ∃ x, Hid (x = w4.heap.size + 1 + 1) := ⟨_, Lib.hid rfl⟩
  rw [← HSq2.out] at HS2' ⊢
  rw [← HSq1.out] at HS1' ⊢
  clear HW5
  have H35 : Hid (Below w3.heap.size w3 W5) := Lib.hid (HB4.out.trans (HB5.out.mono HB4.out.size))
  have HC : Hid (∀ X, Below W5.heap.size W5 X → Tab X ∧ IsStrs X so sig ∧ IsStrs X po path ∧ Below w.heap.size w X ∧ (X.cell? ⟨A, 0, none⟩ = some (.int .i64 3) ∧ X.cell? ⟨A, 1, none⟩ = some (.slice so 18 c1) ∧ X.cell? ⟨A, 2, none⟩ = some (.slice po 2 c2)) ∧
      Whole X S1 24 #[.int .i64 3, .slice so 18 c1, .slice po 1 c2] ∧ Whole X S2 24 #[.int .i64 3, .slice so' 17 (c1 - 1), .slice po 2 c2]) := Lib.hid fun X hX => by
    have h3 := below_step H35.out hX
    have h4 := below_step HB5.out hX
    have hw := HB3.out.trans (h3.mono HB3.out.size)
    exact ⟨HT.out.below hw, HA1.out.below h3, HA2.out.below h3, hw, ⟨(h4.cell (p := ⟨A, 0, none⟩) hA4).trans q0, (h4.cell (p := ⟨A, 1, none⟩) hA4).trans q1, (h4.cell (p := ⟨A, 2, none⟩) hA4).trans q2⟩, (hX.block _ HS1'.out.lt).trans HS1'.out, (hX.block _ HS2'.out.lt).trans HS2'.out⟩
  clear q0 q1 q2 n0 n1 n2 n3 n4 hA4
  obtain ⟨t5, i5, j5, -, -, -, -⟩ := HC.out W5 (Below.refl _ _)
  refine (HV.out W5 pub true so po c1 c2 t5 Hv1.out i5 j5).mono ?_
  clear t5 i5 j5
  rintro e w6 ⟨rfl, hb⟩
  have HB6 := Lib.hid hb
  clear hb
  obtain ⟨t6, i6, j6, -, -, h1, -⟩ := HC.out w6 HB6.out
  have k0 := h1.cell 0
  have k1 := h1.cell 1
  have k2 := h1.cell 2
  simp only [List.getElem?_toArray, List.getElem?_cons_zero, List.getElem?_cons_succ] at k0 k1 k2
  have T6 := Lib.hid (And.intro t6 (And.intro i6 j6))
  clear t6 i6 j6 h1
  go_wp2_with fail
  refine (HV2.out w6 so po c1 c2 T6.out.1 T6.out.2.1 T6.out.2.2).mono ?_
  rintro e w7 ⟨rfl, hb⟩
  have HB7 := Lib.hid (below_step HB6.out hb)
  clear hb k0 k1 k2
  obtain ⟨-, -, -, -, -, -, h2⟩ := HC.out w7 HB7.out
  have k0 := h2.cell 0
  have k1 := h2.cell 1
  have k2 := h2.cell 2
  simp only [List.getElem?_toArray, List.getElem?_cons_zero, List.getElem?_cons_succ] at k0 k1 k2
  clear h2
  go_wp2_with fail
  refine (HV3.out w7 so' po (c1 - 1) c2).mono ?_
  rintro e w8 ⟨rfl, hb⟩
  have HB8 := Lib.hid (below_step HB7.out hb)
  clear hb k0 k1 k2
  obtain ⟨t8, i8, j8, -, ⟨k0, k1, k2⟩, -, -⟩ := HC.out w8 HB8.out
  have T8 := Lib.hid (And.intro t8 (And.intro i8 j8))
  clear t8 i8 j8
  go_wp2_with fail
  refine (HV.out w8 ⟨#[]⟩ false so po c1 c2 T8.out.1 Hv4.out T8.out.2.1 T8.out.2.2).mono ?_
  rintro e w9 ⟨rfl, hb⟩
  have HB9 := Lib.hid (below_step HB8.out hb)
  clear hb k0 k1 k2
  obtain ⟨-, -, -, hw, -, -, -⟩ := HC.out w9 HB9.out
  have HW9 := Lib.hid hw
  clear hw
  go_wp2_with fail
  go_ret
  exact ⟨rfl, HW9.out⟩

end Go.Proofs.YtfnbdjjobndgfaaDoor
