/- The library's stable sort of at most 20 parts: insertion. -/
import Derived.Test.YtijnnfioggjaeaaDoorMonWalksA
import Derived.Test.YtijnnfioggjaeaaDoorGrown
import Derived.Deep.QuietTactic
namespace Go.Proofs.YtijnnfioggjaeaaDoor
open Go.RowKit

/-- A list of parts lies in the block g. -/
def Parts (W : World) (g : Nat) (l : List Mon.Part) : Prop :=
  ∀ k, (h : k < l.length) → (W.cell? ⟨g, k * 3, none⟩ = some (.int .i64 l[k].i) ∧ W.cell? ⟨g, k * 3 + 1, none⟩ = some (.int .i64 l[k].q) ∧ W.cell? ⟨g, k * 3 + 2, none⟩ = some (.int .u64 l[k].r)) ∧
    (W.frozen? ⟨g, k * 3, none⟩ = false ∧ W.frozen? ⟨g, k * 3 + 1, none⟩ = false ∧ W.frozen? ⟨g, k * 3 + 2, none⟩ = false)

abbrev aggP (p : Mon.Part) : Value := .agg #[.int .i64 p.i, .int .i64 p.q, .int .u64 p.r]
set_option maxHeartbeats 1000000 in
theorem before_any (p s : Mon.Part) (w : World) :
    Calls Tryd.prog 20 #[aggP p, aggP s] w fun e w' => e = .returned (.bool (decide (s.r < p.r))) ∧ Below w.heap.size w w' := by
  go_enter Tryd.func20, Tryd.ntmps20
  go_wp2
  go_ret
  exact ⟨rfl, ((Below.refl _ _).alloc (Nat.le_refl _) _).alloc (by rw [size_alloc]; omega) _⟩
theorem enter_before (x y : Value) (w : World) : (callFunc 20 #[x, y]).run Tryd.prog w = .ok (.enter 20 #[x, y]) w := by kernel_rfl
theorem enter_cmp (x y z : Value) (w : World) : (callFunc 27 #[x, y, z]).run Tryd.prog w = .ok (.enter 27 #[x, y, z]) w := by kernel_rfl

/-- The comparison that the sort gets. -/
def cmpP (p s : Mon.Part) : Int := if s.r < p.r then -1 else if p.r < s.r then 1 else 0
set_option maxHeartbeats 2000000 in
theorem cmp_any (p s : Mon.Part) (b : Nat) (w : World) (hb : w.cell? ⟨b, 0, none⟩ = some (.func (.func 20) #[] #[])) :
    Calls Tryd.prog 27 #[aggP p, aggP s, .pointer (some ⟨b, 0, none⟩)] w fun e w' => e = .returned (.int .i64 (cmpP p s)) ∧ Below w.heap.size w w' := by
  have hlt := lt_of_cell hb
  have hE1 := enter_before (aggP p) (aggP s)
  have hE2 := enter_before (aggP s) (aggP p)
  have f0 : ((w.alloc (.cells #[.int .i64 p.i, .int .i64 p.q, .int .u64 p.r] 42)).alloc (.cells #[.int .i64 s.i, .int .i64 s.q, .int .u64 s.r] 42)).cell? ⟨b, 0, none⟩ = some (.func (.func 20) #[] #[]) := by rw [cell_alloc, if_neg (by rw [size_alloc]; omega), cell_alloc, if_neg (by omega), hb]
  by_cases h1 : s.r < p.r
  · have Hc := Lib.hid (show cmpP p s = -1 by unfold cmpP; rw [if_pos h1])
    have K1 := Lib.hid (fun w => before_any p s w)
    rw [decide_eq_true h1] at K1
    go_enter Tryd.func27, Tryd.ntmps27
    go_wp2_with fail
    refine (K1.out _).mono ?_
    rintro e w1 ⟨rfl, hb1⟩
    go_wp2
    go_ret
    exact ⟨ret_int Hc.out.symm, (((Below.refl _ _).alloc (Nat.le_refl _) _).alloc (by rw [size_alloc]; omega) _).trans (hb1.mono (by rw [size_alloc, size_alloc]; omega))⟩
  · have K1 := Lib.hid (fun w => before_any p s w)
    rw [decide_eq_false h1] at K1
    by_cases h2 : p.r < s.r
    all_goals
      have K2 := Lib.hid (fun w => before_any s p w)
      first | rw [decide_eq_true h2] at K2 | rw [decide_eq_false h2] at K2
      first | have Hc := Lib.hid (show cmpP p s = 1 by unfold cmpP; rw [if_neg h1, if_pos h2]) | have Hc := Lib.hid (show cmpP p s = 0 by unfold cmpP; rw [if_neg h1, if_neg h2])
      go_enter Tryd.func27, Tryd.ntmps27
      go_wp2_with fail
      refine (K1.out _).mono ?_
      rintro e w1 ⟨rfl, hb1⟩
      obtain ⟨hc, hd⟩ := bcell hb1
      have g0 := (hc b 0 (by rw [size_alloc, size_alloc]; omega)).trans f0
      have g1 := hc w.heap.size 0 (by rw [size_alloc, size_alloc]; omega)
      have g2 := hc w.heap.size 1 (by rw [size_alloc, size_alloc]; omega)
      have g3 := hc w.heap.size 2 (by rw [size_alloc, size_alloc]; omega)
      have g4 := hc (w.heap.size + 1) 0 (by rw [size_alloc, size_alloc]; omega)
      have g5 := hc (w.heap.size + 1) 1 (by rw [size_alloc, size_alloc]; omega)
      have g6 := hc (w.heap.size + 1) 2 (by rw [size_alloc, size_alloc]; omega)
      simp [cell_alloc] at g1 g2 g3 g4 g5 g6
      clear hc hd
      go_wp2_with fail
      refine (K2.out _).mono ?_
      rintro e w2 ⟨rfl, hb2⟩
      go_wp2
      go_ret
      exact ⟨ret_int Hc.out.symm, ((((Below.refl _ _).alloc (Nat.le_refl _) _).alloc (by rw [size_alloc]; omega) _).trans (hb1.mono (by rw [size_alloc, size_alloc]; omega))).trans (hb2.mono (by have := hb1.size; rw [size_alloc, size_alloc] at this; omega))⟩

end Go.Proofs.YtijnnfioggjaeaaDoor
