/- The walk of sign.Public. -/
import Derived.Test.YtfnbdjjobndgfaaDoorSgnTree
namespace Go.Proofs.YtfnbdjjobndgfaaDoor
open Go.RowKit

set_option maxHeartbeats 1000000 in
theorem public_bad (sec : ByteArray) (h : Int) (hh : (decide (0 ≤ h) && decide (h ≤ 8)) = false) (w : World) :
    Calls Tryd.prog 13 #[.string sec, .int .i64 h] w fun e w' => e = .returned (.tuple #[.string ⟨#[]⟩, .int .i64 1]) ∧ Below w.heap.size w w' := by
  have HI : Hid (∀ w, Calls Tryd.prog 26 #[.int .i64 h] w fun e w' => e = .returned (.bool false) ∧ w = w') := Lib.hid fun w => by
    have := isHeight_any h w
    rw [hh] at this
    exact this
  clear hh
  go_enter Tryd.func13, Tryd.ntmps13
  go_wp2_with fail
  refine (HI.out _).mono ?_
  rintro e w1 ⟨rfl, rfl⟩
  go_wp2_with fail
  refine bodyPost_ret (v := .tuple #[.string ⟨#[]⟩, .int .i64 1]) (by simp [results, Tryd.results13, go_sem]) rfl ⟨rfl, Below.refl _ _⟩

set_option maxHeartbeats 1000000 in
theorem public_good (sec : ByteArray) (hs : sec.size ≤ 300) (h : Nat) (hh : h ≤ 8) (w : World) (ht : Tab w) :
    Calls Tryd.prog 13 #[.string sec, .int .i64 h] w fun e w' => e = .returned (.tuple #[.string (Sgn.rootV sec h), .int .i64 0]) ∧ Below w.heap.size w w' := by
  have HI : Hid (∀ w, Calls Tryd.prog 26 #[.int .i64 h] w fun e w' => e = .returned (.bool true) ∧ w = w') := Lib.hid fun w => by
    have := isHeight_any h w
    rw [decide_eq_true (show (0 : Int) ≤ h by omega), decide_eq_true (show (h : Int) ≤ 8 by omega)] at this
    exact this
  have HTr := Lib.hid (tree_any sec hs h hh w ht)
  have hll : (Sgn.level sec h h).length = 1 := by rw [Sgn.level_len sec h h (Nat.le_refl _), Nat.sub_self]
  have HLL := Lib.hid hll
  have hlt : (h : Int) < (h : Int) + 1 := by omega
  clear ht hs hll
  go_enter Tryd.func13, Tryd.ntmps13
  go_wp2_with fail
  refine (HI.out _).mono ?_
  rintro e w1 ⟨rfl, rfl⟩
  go_wp2_with fail
  refine HTr.out.mono ?_
  rintro e w2 ⟨g, cap, rfl, _, hb, hT⟩
  obtain ⟨vo, vc, hcell, hst⟩ := hT.levs h (Nat.le_refl _)
  rw [HLL.out] at hcell
  obtain ⟨bs, os, rfl, hbs, hcs⟩ := strs_at hst (k := 0) (by rw [HLL.out]; decide)
  have hc0 : w2.cell? ⟨bs, os, none⟩ = some (.string (Sgn.rootV sec h)) := by
    have := hcs 0 (by rw [HLL.out]; decide)
    rw [Nat.add_zero] at this
    rw [this]
    unfold Sgn.rootV
    rw [Sgn.at_get (by rw [HLL.out]; decide)]
  have HB := Lib.hid hb
  clear hcs hst hT hb
  go_wp2_with fail
  refine bodyPost_ret (v := .tuple #[.string (Sgn.rootV sec h), .int .i64 0]) (by simp [results, Tryd.results13, go_sem]) rfl ⟨rfl, HB.out⟩

end Go.Proofs.YtfnbdjjobndgfaaDoor
