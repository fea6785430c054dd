/- The walk of the reference's Bools: whether two lists of Booleans are equal. -/
import Derived.Test.YtejgbfaampllaaaBase
import Derived.Test.YtejgbfaampllaaaOpenSl
import Derived.Test.YtejgbfaampllaaaGrown
import Derived.Test.YtejgbfaampllaaaTskBools
namespace Go.Proofs.Ytejgbfaampllaaa
open Go.RowKit

set_option maxHeartbeats 1000000 in
theorem bools_ne (n m : Nat) (hne : n ≠ m) (ao bo : Option Addr) (ca cb : Nat) (w : World) :
    Calls Try.prog 20 #[.slice ao n ca, .slice bo m cb] w fun e w' => e = .returned (.bool false) ∧ w = w' := by
  have h1 : ((n : Int) != m) = true := by simp; omega
  have h2 : ((n : Int) == m) = false := by simp; omega
  go_enter Try.func20, Try.ntmps20
  go_wp2
  go_ret
  exact ⟨rfl, rfl⟩
set_option maxHeartbeats 1000000 in
theorem bools_nil (ao bo : Option Addr) (ca cb : Nat) (w : World) :
    Calls Try.prog 20 #[.slice ao 0 ca, .slice bo 0 cb] w fun e w' => e = .returned (.bool true) ∧ Below w.heap.size w w' := by
  go_enter Try.func20, Try.ntmps20
  go_wp2
  go_loop [5] (fun i => i = .int .i64 0) (fun _ => 0)
  case atStart => rfl
  case round =>
    obtain rfl := hrel
    go_wp2
    go_ret
    exact ⟨rfl, Below.refl _ _⟩

set_option maxHeartbeats 4000000 in
theorem bools_same (xs ys : List Bool) (n : Nat) (hx : n = xs.length) (hy : n = ys.length) (hn : n ≤ 9223372036854775807) (bk off bl ofl ca cb : Nat) (w : World) (hbk : bk < w.heap.size) (hbl : bl < w.heap.size)
    (hc : ∀ k, (h : k < xs.length) → w.cell? ⟨bk, off + k, none⟩ = some (.bool xs[k])) (hd : ∀ k, (h : k < ys.length) → w.cell? ⟨bl, ofl + k, none⟩ = some (.bool ys[k])) :
    Calls Try.prog 20 #[.slice (some ⟨bk, off, none⟩) n ca, .slice (some ⟨bl, ofl, none⟩) n cb] w fun e w' => e = .returned (.bool (decide (xs = ys))) ∧ Below w.heap.size w w' := by
  have HC := Lib.hid hc
  have HD := Lib.hid hd
  have HX := Lib.hid hx
  have HY := Lib.hid hy
  clear hc hd hx hy
  obtain ⟨res, Hres⟩ : ∃ r, Hid (r = decide (xs = ys)) := ⟨_, Lib.hid rfl⟩
  rw [← Hres.out]
  go_enter Try.func20, Try.ntmps20
  go_wp2
  go_loopw [5] (fun i wr => ∃ k : Nat, k ≤ n ∧ i = .int .i64 k ∧ Hid (Below w.heap.size w wr) ∧ Hid (xs.take k = ys.take k)) (fun i _ => n - (intOf i).toNat)
  case atStart => exact ⟨0, by omega, rfl, Lib.hid (Below.refl _ _), Lib.hid (by simp)⟩
  case round =>
    obtain ⟨k, hk, rfl, HB, HE⟩ := hrel
    by_cases hlt : k < n
    · have hkx : k < xs.length := by rw [← HX.out]; exact hlt
      have hky : k < ys.length := by rw [← HY.out]; exact hlt
      obtain ⟨x, Hx⟩ : ∃ x, Hid (x = xs[k]) := ⟨_, Lib.hid rfl⟩
      obtain ⟨y, Hy⟩ : ∃ x, Hid (x = ys[k]) := ⟨_, Lib.hid rfl⟩
      have hk' : (k : Int) < n := by omega
      have h1 : wr.cell? ⟨bk, off + k, none⟩ = some (.bool x) := by rw [HB.out.cell (p := ⟨bk, off + k, none⟩) hbk, HC.out k hkx, Hx.out]
      have h2 : wr.cell? ⟨bl, ofl + k, none⟩ = some (.bool y) := by rw [HB.out.cell (p := ⟨bl, ofl + k, none⟩) hbl, HD.out k hky, Hy.out]
      have l1 := lt_of_cell h1
      have l2 := lt_of_cell h2
      have p1 : ∀ X : Grown wr, X.w.cell? ⟨bk, off + k, none⟩ = some (.bool x) := fun X => by rw [X.cell l1, h1]
      have p2 : ∀ X : Grown wr, X.w.cell? ⟨bl, ofl + k, none⟩ = some (.bool y) := fun X => by rw [X.cell l2, h2]
      have et1 : Hid (xs.take (k + 1) = xs.take k ++ [x]) := Lib.hid (by rw [Hx.out]; exact List.take_succ_eq_append_getElem hkx)
      have et2 : Hid (ys.take (k + 1) = ys.take k ++ [y]) := Lib.hid (by rw [Hy.out]; exact List.take_succ_eq_append_getElem hky)
      by_cases hxy : x = y
      · subst hxy
        go_wp2_with fail
        refine wp_region_grown (by kernel_rfl) (by kernel_rfl) ?_
        repeat (go_big_quiet_step (fail))
        refine wpQuiet_nil ?_
        rintro _ ⟨X, rfl⟩
        go_wp2
        go_roundw
        case rel => exact ⟨k + 1, by omega, by go_num, Lib.hid (HB.out.trans (X.below.mono HB.out.size)), Lib.hid (by rw [et1.out, et2.out, HE.out])⟩
        case measure => simp [intOf]; omega
      · have e1 : (x != y) = true := by simp [hxy]
        have e2 : (x == y) = false := by simp [hxy]
        have Hf : Hid (res = false) := Lib.hid (by
          rw [Hres.out]
          refine decide_eq_false fun hh => hxy ?_
          rw [Hx.out, Hy.out]
          subst hh; rfl)
        clear hxy
        go_wp2_with fail
        refine wp_region_grown (by kernel_rfl) (by kernel_rfl) ?_
        repeat (go_big_quiet_step (fail))
        refine wpQuiet_nil ?_
        rintro _ ⟨X, rfl⟩
        go_wp2
        go_ret
        exact ⟨by rw [Hf.out] <;> rfl, HB.out.trans (X.below.mono HB.out.size)⟩
    · obtain rfl : n = k := by omega
      go_wp2
      go_ret
      have e : decide (xs = ys) = true := decide_eq_true (by
        have := HE.out
        rwa [HX.out, List.take_length, ← HX.out, HY.out, List.take_length] at this)
      exact ⟨by rw [Hres.out, e] <;> rfl, HB.out⟩

theorem bools_any (xs ys : List Bool) (hx : xs.length ≤ 9223372036854775807) (ao bo : Option Addr) (ca cb : Nat) (w : World) (hA : IsBools w ao xs) (hB : IsBools w bo ys) :
    Calls Try.prog 20 #[.slice ao xs.length ca, .slice bo ys.length cb] w fun e w' => e = .returned (.bool (decide (xs = ys))) ∧ Below w.heap.size w w' := by
  by_cases hl : xs.length = ys.length
  · rcases hA with rfl | ⟨bk, off, rfl, hbk, hc⟩
    · obtain rfl : ys = [] := List.length_eq_zero_iff.1 hl.symm
      exact bools_nil ao bo ca cb w
    · rcases hB with rfl | ⟨bl, ofl, rfl, hbl, hd⟩
      · obtain rfl : xs = [] := List.length_eq_zero_iff.1 hl
        exact bools_nil _ bo ca cb w
      · have := bools_same xs ys xs.length rfl hl hx bk off bl ofl ca cb w hbk hbl hc hd
        rw [← hl]
        exact this
  · rw [decide_eq_false (fun h => hl (by rw [h]))]
    exact (bools_ne _ _ hl ao bo ca cb w).mono fun e w' ⟨h1, h2⟩ => ⟨h1, h2 ▸ Below.refl _ _⟩

end Go.Proofs.Ytejgbfaampllaaa
