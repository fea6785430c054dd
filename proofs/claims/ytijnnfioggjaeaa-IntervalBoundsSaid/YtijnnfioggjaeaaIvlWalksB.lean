/- The walks of package interval: the hull of some bounds, and what is combined. -/
import Derived.Test.YtijnnfioggjaeaaIvlWalksA
namespace Go.Proofs.Ytijnnfioggjaeaa
open Go.RowKit

set_option maxHeartbeats 1000000 in
theorem hull_any (f : Int) (l : List Int) (hl : l.length ≤ 1000) (g c : Nat) (w : World) (hg : g < w.heap.size) (hc : ∀ k, k < l.length → w.cell? ⟨g, k, none⟩ = some (.int .i64 (l.getD k 0))) :
    Calls Try.prog 21 #[.int .i64 f, .slice (some ⟨g, 0, none⟩) l.length c] w
      fun e w' => e = .returned (.agg #[.int .i64 (Ivl.low f l), .int .i64 (Ivl.high f l)]) ∧ Below w.heap.size w w' := by
  obtain ⟨n, Hn⟩ : ∃ n, Hid (n = l.length) := ⟨_, Lib.hid rfl⟩
  rw [← Hn.out] at hl ⊢
  go_enter Try.func21, Try.ntmps21
  go_wp2
  go_loop [5, 6, 13] (fun lo hi i => ∃ k : Nat, k ≤ n ∧ i = .int .i64 k ∧ lo = .int .i64 (Ivl.low f (l.take k)) ∧ hi = .int .i64 (Ivl.high f (l.take k))) (fun _ _ i => n - (intOf i).toNat)
  case atStart => exact ⟨0, by omega, rfl, rfl, rfl⟩
  case round =>
    obtain ⟨k, hk, rfl, rfl, rfl⟩ := hrel
    by_cases hlt : k < n
    · have hck := hc k (by rw [← Hn.out]; exact hlt)
      have Hlo := Lib.hid (Ivl.low_take f l k (by rw [← Hn.out]; exact hlt))
      have Hhi := Lib.hid (Ivl.high_take f l k (by rw [← Hn.out]; exact hlt))
      clear hc
      obtain ⟨x, Hx⟩ : ∃ x, Hid (x = l.getD k 0) := ⟨_, Lib.hid rfl⟩
      rw [← Hx.out] at hck
      obtain ⟨a, Ha⟩ : ∃ a, Hid (a = Ivl.low f (l.take k)) := ⟨_, Lib.hid rfl⟩
      obtain ⟨b, Hb⟩ : ∃ b, Hid (b = Ivl.high f (l.take k)) := ⟨_, Lib.hid rfl⟩
      rw [← Ha.out, ← Hb.out]
      have h1 := Ivl.imin_cases a x
      have h2 := Ivl.imax_cases b x
      go_wp2
      all_goals
        go_round
        case rel => exact ⟨k + 1, by omega, by go_num, by rw [Hlo.out, ← Ha.out, ← Hx.out]; first | (congr 1; done) | (congr 1; omega), by rw [Hhi.out, ← Hb.out, ← Hx.out]; first | (congr 1; done) | (congr 1; omega)⟩
        case measure => simp [intOf]; omega
    · obtain rfl : k = n := by omega
      go_wp2
      refine bodyPost_ret (v := .agg #[.int .i64 (Ivl.low f l), .int .i64 (Ivl.high f l)]) (by simp [results, Try.results21, go_sem, Hn.out]) rfl ⟨rfl, ?_⟩
      exact (Below.refl _ _).alloc (Nat.le_refl _) _

set_option maxHeartbeats 1000000 in
theorem closure_any (F : Nat) (x y z : Int) (p : Nat) (w : World) (hp : w.cell? ⟨p, 0, none⟩ = some (.func (.func F) #[] #[]))
    (hE : ∀ w, (callFunc F #[.int .i64 x, .int .i64 y]).run Try.prog w = .ok (.enter F #[.int .i64 x, .int .i64 y]) w)
    (hF : Calls Try.prog F #[.int .i64 x, .int .i64 y] w fun e w' => e = .returned (.int .i64 z) ∧ w = w') :
    Calls Try.prog 23 #[.int .i64 x, .int .i64 y, .pointer (some ⟨p, 0, none⟩)] w fun e w' => e = .returned (.int .i64 z) ∧ w = w' := by
  go_enter Try.func23, Try.ntmps23
  go_wp2_with fail
  refine hF.mono ?_
  rintro e w' ⟨rfl, rfl⟩
  go_wp2
  go_ret
  exact ⟨rfl, rfl⟩

theorem enter_plus (x y : Int) (w : World) : (callFunc 18 #[.int .i64 x, .int .i64 y]).run Try.prog w = .ok (.enter 18 #[.int .i64 x, .int .i64 y]) w := by kernel_rfl
theorem enter_minus (x y : Int) (w : World) : (callFunc 19 #[.int .i64 x, .int .i64 y]).run Try.prog w = .ok (.enter 19 #[.int .i64 x, .int .i64 y]) w := by kernel_rfl
theorem enter_times (x y : Int) (w : World) : (callFunc 20 #[.int .i64 x, .int .i64 y]).run Try.prog w = .ok (.enter 20 #[.int .i64 x, .int .i64 y]) w := by kernel_rfl

set_option maxHeartbeats 2000000 in
theorem combined_any (F : Nat) (g : Int → Int → Int) (al ah bl bh : Int) (hva : Ivl.validB al ah = true) (hvb : Ivl.validB bl bh = true) (w : World)
    (hE : ∀ x y w, (callFunc F #[.int .i64 x, .int .i64 y]).run Try.prog w = .ok (.enter F #[.int .i64 x, .int .i64 y]) w)
    (hF : ∀ x y w, -1000000000000 ≤ x ∧ x ≤ 1000000000000 → -1000000000000 ≤ y ∧ y ≤ 1000000000000 → Calls Try.prog F #[.int .i64 x, .int .i64 y] w fun e w' => e = .returned (.int .i64 (g x y)) ∧ w = w') :
    Calls Try.prog 17 #[.agg #[.int .i64 al, .int .i64 ah], .agg #[.int .i64 bl, .int .i64 bh], .func (.func F) #[] #[]] w
      fun e w' => e = .returned (.agg #[.int .i64 (Ivl.low (g al bl) [g al bh, g ah bl, g ah bh]), .int .i64 (Ivl.high (g al bl) [g al bh, g ah bl, g ah bh])]) ∧ Below w.heap.size w w' := by
  obtain ⟨va1, va2, va3⟩ := Ivl.valid_iff.1 hva
  obtain ⟨vb1, vb2, vb3⟩ := Ivl.valid_iff.1 hvb
  go_enter Try.func17, Try.ntmps17
  go_wp2_with fail
  refine (valid_any _ _ _).mono ?_
  rintro e w1 ⟨rfl, hb1⟩
  obtain ⟨hc1, hd1⟩ := bcell hb1
  go_wp2_with fail
  refine (valid_any _ _ _).mono ?_
  rintro e w2 ⟨rfl, hb2⟩
  have z1 : w.heap.size + 4 ≤ w1.heap.size := by have := hb1.size; simp at this; omega
  have z2 : w1.heap.size ≤ w2.heap.size := hb2.size
  have f0 : w2.cell? ⟨w.heap.size, 0, none⟩ = some (.int .i64 al) := by rw [hb2.cell (by show w.heap.size < _; omega), hb1.cell (by simp only [size_alloc]; omega)]; simp [cell_alloc, Nat.add_assoc]
  have f1 : w2.cell? ⟨w.heap.size, 1, none⟩ = some (.int .i64 ah) := by rw [hb2.cell (by show w.heap.size < _; omega), hb1.cell (by simp only [size_alloc]; omega)]; simp [cell_alloc, Nat.add_assoc]
  have f2 : w2.cell? ⟨w.heap.size + 1, 0, none⟩ = some (.int .i64 bl) := by rw [hb2.cell (by show w.heap.size + 1 < _; omega), hb1.cell (by simp only [size_alloc]; omega)]; simp [cell_alloc, Nat.add_assoc]
  have f3 : w2.cell? ⟨w.heap.size + 1, 1, none⟩ = some (.int .i64 bh) := by rw [hb2.cell (by show w.heap.size + 1 < _; omega), hb1.cell (by simp only [size_alloc]; omega)]; simp [cell_alloc, Nat.add_assoc]
  have f4 : w2.cell? ⟨w.heap.size + 1 + 1, 0, none⟩ = some (.func (.func F) #[] #[]) := by rw [hb2.cell (by show w.heap.size + 1 + 1 < _; omega), hb1.cell (by simp only [size_alloc]; omega)]; simp [cell_alloc, Nat.add_assoc]
  have f5 : w2.cell? ⟨w.heap.size + 1 + 1 + 1, 0, none⟩ = some (.int .i64 0) := by rw [hb2.cell (by show w.heap.size + 1 + 1 + 1 < _; omega), hb1.cell (by simp only [size_alloc]; omega)]; simp [cell_alloc, Nat.add_assoc]
  have f6 : w2.cell? ⟨w.heap.size + 1 + 1 + 1, 1, none⟩ = some (.int .i64 0) := by rw [hb2.cell (by show w.heap.size + 1 + 1 + 1 < _; omega), hb1.cell (by simp only [size_alloc]; omega)]; simp [cell_alloc, Nat.add_assoc]
  have f7 : w2.frozen? ⟨w.heap.size + 1 + 1 + 1, 0, none⟩ = false := by rw [hb2.frozen (by show w.heap.size + 1 + 1 + 1 < _; omega), hb1.frozen (by simp only [size_alloc]; omega)]; simp [frozen_alloc, Nat.add_assoc]
  have f8 : w2.frozen? ⟨w.heap.size + 1 + 1 + 1, 1, none⟩ = false := by rw [hb2.frozen (by show w.heap.size + 1 + 1 + 1 < _; omega), hb1.frozen (by simp only [size_alloc]; omega)]; simp [frozen_alloc, Nat.add_assoc]
  have hbw : Below w.heap.size w w2 := (((((Below.refl _ _).alloc (Nat.le_refl _) _).alloc (by simp only [size_alloc]; omega) _).alloc (by simp only [size_alloc]; omega) _).alloc (by simp only [size_alloc]; omega) _).trans (hb1.mono (by simp only [size_alloc]; omega)) |>.trans (hb2.mono (by omega))
  clear hc1 hd1 hb1 hb2
  go_wp2_with fail
  go_still_tail 24, (by kernel_rfl)
  still_call (still_of (closure_any F al bl (g al bl) _ _ f4 (hE _ _) (hF _ _ _ (by omega) (by omega))))
  repeat still_step
  still_call (still_of (closure_any F al bh (g al bh) _ _ f4 (hE _ _) (hF _ _ _ (by omega) (by omega))))
  repeat still_step
  still_call (still_of (closure_any F ah bl (g ah bl) _ _ f4 (hE _ _) (hF _ _ _ (by omega) (by omega))))
  repeat still_step
  still_call (still_of (closure_any F ah bh (g ah bh) _ _ f4 (hE _ _) (hF _ _ _ (by omega) (by omega))))
  repeat still_step
  refine wpStill_nil ?_
  go_wp2_with fail
  refine (hull_any (g al bl) [g al bh, g ah bl, g ah bh] (by simp) w2.heap.size 3 _ (by rw [World.size_drew, size_alloc]; omega) (by
    intro k hk
    have hc : k = 0 ∨ k = 1 ∨ k = 2 := by simp at hk; omega
    rcases hc with rfl | rfl | rfl <;> simp [cell_alloc])).mono ?_
  rintro e w3 ⟨rfl, hb3⟩
  have z3 : w2.heap.size + 1 ≤ w3.heap.size := by have := hb3.size; rw [World.size_drew, size_alloc] at this; exact this
  have g5 : w3.cell? ⟨w.heap.size + 1 + 1 + 1, 0, none⟩ = some (.int .i64 0) := by
    rw [hb3.cell (by rw [World.size_drew, size_alloc]; show w.heap.size + 1 + 1 + 1 < _; omega), World.cell?_drew, cell_alloc, if_neg (by omega), f5]
  have g6 : w3.cell? ⟨w.heap.size + 1 + 1 + 1, 1, none⟩ = some (.int .i64 0) := by
    rw [hb3.cell (by rw [World.size_drew, size_alloc]; show w.heap.size + 1 + 1 + 1 < _; omega), World.cell?_drew, cell_alloc, if_neg (by omega), f6]
  have g7 : w3.frozen? ⟨w.heap.size + 1 + 1 + 1, 0, none⟩ = false := by
    rw [hb3.frozen (by rw [World.size_drew, size_alloc]; show w.heap.size + 1 + 1 + 1 < _; omega), World.frozen?_drew, frozen_alloc, if_neg (by omega), f7]
  have g8 : w3.frozen? ⟨w.heap.size + 1 + 1 + 1, 1, none⟩ = false := by
    rw [hb3.frozen (by rw [World.size_drew, size_alloc]; show w.heap.size + 1 + 1 + 1 < _; omega), World.frozen?_drew, frozen_alloc, if_neg (by omega), f8]
  have hbw3 : Below w.heap.size w w3 := ((hbw.alloc (by omega) _).drew).trans (hb3.mono (by rw [World.size_drew, size_alloc]; omega))
  clear hb3 f0 f1 f2 f3 f4 f5 f6 f7 f8 hbw
  go_wp2
  refine bodyPost_ret (v := .agg #[.int .i64 (Ivl.low (g al bl) [g al bh, g ah bl, g ah bh]), .int .i64 (Ivl.high (g al bl) [g al bh, g ah bl, g ah bh])]) (by simp [results, Try.results17, go_sem, g5, g6]) rfl ⟨rfl, ?_⟩
  exact (hbw3.setCell (by show w.heap.size ≤ w.heap.size + 1 + 1 + 1; omega) _).setCell (by show w.heap.size ≤ w.heap.size + 1 + 1 + 1; omega) _

end Go.Proofs.Ytijnnfioggjaeaa
