/- The walks of package money: amounts, the sum of weights, percentages. -/
import Derived.Test.YtijnnfioggjaeaaDoorBase
import Derived.Test.YtijnnfioggjaeaaDoorOpenSl
import Derived.Test.YtijnnfioggjaeaaDoorMonMath
namespace Go.Proofs.YtijnnfioggjaeaaDoor
open Go.RowKit

theorem isAmount_any (n : Int) (w : World) :
    Calls Tryd.prog 18 #[.int .i64 n] w fun e w' => e = .returned (.bool (Mon.amtB n)) ∧ w = w' := by
  by_cases h1 : 0 ≤ n
  · by_cases h2 : n ≤ 1000000000000
    all_goals
      go_enter Tryd.func18, Tryd.ntmps18
      go_wp2
      go_ret
      exact ⟨ret_bool (by first | exact (Mon.amt_iff.2 ⟨h1, h2⟩).symm | exact (Mon.amt_no (by omega)).symm), rfl⟩
  · go_enter Tryd.func18, Tryd.ntmps18
    go_wp2
    go_ret
    exact ⟨ret_bool (Mon.amt_no (by omega)).symm, rfl⟩

theorem total_long (n : Nat) (hn : 16 < n) (hn2 : n ≤ 140737488351232) (ao : Option Addr) (cap : Nat) (w : World) :
    Calls Tryd.prog 17 #[.slice ao n cap] w fun e w' => e = .returned (.tuple #[.int .u64 0, .bool false]) ∧ w = w' := by
  have h1 : (16 : Int) < n := by omega
  go_enter Tryd.func17, Tryd.ntmps17
  go_wp2
  go_ret2
  exact ⟨rfl, rfl⟩

set_option maxHeartbeats 2000000 in
theorem total_short (zs : List Int) (hn : zs.length ≤ 16) (ao : Option Addr) (cap : Nat) (w : World) (hz : IsInts w ao zs) :
    Calls Tryd.prog 17 #[.slice ao zs.length cap] w fun e w' => e = .returned (.tuple #[.int .u64 (Mon.totV zs), .bool (Mon.totB zs)]) ∧ w = w' := by
  obtain ⟨n, Hn⟩ : ∃ n, Hid (n = zs.length) := ⟨_, Lib.hid rfl⟩
  rw [← Hn.out] at hn ⊢
  have h1 : ¬ (16 : Int) < n := by omega
  have HZ := Lib.hid hz
  clear hz
  go_enter Tryd.func17, Tryd.ntmps17
  go_wp2
  go_loop [4, 12] (fun t i => ∃ (k : Nat) (s : Int), k ≤ n ∧ i = .int .i64 k ∧ t = .int .i64 s ∧ 0 ≤ s ∧ s ≤ 159999984 ∧ Hid (s = (zs.take k).sum ∧ ∀ z ∈ zs.take k, Mon.wB z = true)) (fun _ i => n - (intOf i).toNat)
  case atStart => exact ⟨0, 0, by omega, rfl, rfl, by omega, by omega, Lib.hid ⟨by simp, by simp⟩⟩
  case round =>
    obtain ⟨k, s, hk, rfl, rfl, hs0, hs1, Hs⟩ := hrel
    by_cases hlt : k < n
    · have hkz : k < zs.length := by rw [← Hn.out]; exact hlt
      have hck : ∃ bk off, ao = some ⟨bk, off, none⟩ ∧ w.cell? ⟨bk, off + k, none⟩ = some (.int .i64 zs[k]) := by
        rcases HZ.out with h | ⟨bk, off, h1, _, h3⟩
        · rw [h] at hkz; simp at hkz
        · exact ⟨bk, off, h1, h3 k hkz⟩
      obtain ⟨bk, off, rfl, hck⟩ := hck
      obtain ⟨z, Hz⟩ : ∃ z, Hid (z = zs[k]) := ⟨_, Lib.hid rfl⟩
      rw [← Hz.out] at hck
      have Htake : Hid (zs.take (k + 1) = zs.take k ++ [z]) := Lib.hid (by rw [List.take_succ_eq_append_getElem hkz, Hz.out])
      have Hmem : Hid (z ∈ zs) := Lib.hid (by rw [Hz.out]; exact List.getElem_mem _)
      by_cases hbad : z < 0 ∨ 9999999 < z
      · have Hb : Hid (Mon.totV zs = 0 ∧ Mon.totB zs = false) := Lib.hid (by
          have : Mon.okB zs = false := by
            cases hb : Mon.okB zs
            · rfl
            · have := (Mon.ok_iff.1 hb).2 z Hmem.out; omega
          unfold Mon.totV Mon.totB
          rw [this]
          exact ⟨rfl, rfl⟩)
        rcases hbad with hbad | hbad
        · go_wp2
          go_ret2
          exact ⟨by rw [Hb.out.1, Hb.out.2]; rfl, rfl⟩
        · have hb0 : ¬ z < 0 := by omega
          go_wp2
          go_ret2
          exact ⟨by rw [Hb.out.1, Hb.out.2]; rfl, rfl⟩
      · have z0 : 0 ≤ z := by omega
        have z1 : z ≤ 9999999 := by omega
        clear hbad
        have hb : Hid (∀ x ∈ zs.take (k + 1), Mon.wB x = true) := Lib.hid (fun x hx => by
          rw [Htake.out] at hx
          rcases List.mem_append.1 hx with h | h
          · exact Hs.out.2 x h
          · rw [List.mem_singleton.1 h]; exact Mon.w_iff.2 ⟨z0, z1⟩)
        have Hsum : Hid (s + z = (zs.take (k + 1)).sum) := Lib.hid (by rw [Htake.out, Mon.sum_snoc, ← Hs.out.1])
        have hle : s + z ≤ 159999984 := by
          have h1 := (Mon.sum_bd (zs.take (k + 1)) (fun x hx => Mon.w_iff.1 (hb.out x hx))).2
          rw [← Hsum.out] at h1
          have h2 := List.length_take_le (k + 1) zs
          omega
        go_wp2
        go_round
        case rel => exact ⟨k + 1, s + z, by omega, by go_num, rfl, by omega, hle, Lib.hid ⟨Hsum.out, hb.out⟩⟩
        case measure => simp [intOf]; omega
    · obtain rfl : n = k := by omega
      have Hr : Hid (Mon.totV zs = s ∧ Mon.totB zs = decide (0 < s)) := Lib.hid (by
        have e : zs.take n = zs := by rw [Hn.out, List.take_length]
        have h2 := Hs.out
        rw [e] at h2
        have : Mon.okB zs = true := Mon.ok_iff.2 ⟨by rw [← Hn.out]; exact hn, fun z hz => Mon.w_iff.1 (h2.2 z hz)⟩
        unfold Mon.totV Mon.totB
        rw [this, ← h2.1]
        exact ⟨rfl, by simp⟩)
      have hw : IntKind.u64.wrap s = s := by
        have e : ∀ n : Int, IntKind.u64.wrap n = n % 18446744073709551616 := fun n => rfl
        rw [e]; omega
      go_wp2
      go_ret2
      exact ⟨by rw [Hr.out.1, Hr.out.2]; rfl, rfl⟩

theorem total_any (zs : List Int) (hn : zs.length ≤ 140737488351232) (ao : Option Addr) (cap : Nat) (w : World) (hz : IsInts w ao zs) :
    Calls Tryd.prog 17 #[.slice ao zs.length cap] w fun e w' => e = .returned (.tuple #[.int .u64 (Mon.totV zs), .bool (Mon.totB zs)]) ∧ w = w' := by
  by_cases h : zs.length ≤ 16
  · exact total_short zs h ao cap w hz
  · have e : Mon.okB zs = false := by
      cases hb : Mon.okB zs
      · rfl
      · have := (Mon.ok_iff.1 hb).1; omega
    unfold Mon.totV Mon.totB
    rw [e]
    exact total_long zs.length (by omega) hn ao cap w

theorem ret_pair {a b c : Int} (h : a = b) : Ending.returned (.tuple #[.int .i64 a, .int .i64 c]) = Ending.returned (.tuple #[.int .i64 b, .int .i64 c]) := by rw [h]
theorem pct_cases (n p : Int) : ((50 < n * p % 100 ∨ n * p % 100 = 50 ∧ n * p / 100 % 2 = 1) ∧ Mon.pct n p = n * p / 100 + 1) ∨ (¬ (50 < n * p % 100 ∨ n * p % 100 = 50 ∧ n * p / 100 % 2 = 1) ∧ Mon.pct n p = n * p / 100) := by
  unfold Mon.pct
  split
  · rename_i h; exact Or.inl ⟨h, rfl⟩
  · rename_i h; exact Or.inr ⟨h, rfl⟩
set_option maxHeartbeats 2000000 in
theorem percent_any (n p : Int) (w : World) :
    Calls Tryd.prog 8 #[.int .i64 n, .int .i64 p] w fun e w' => e = .returned (.tuple #[.int .i64 (if Mon.pctB n p then Mon.pct n p else 0), .int .i64 (if Mon.pctB n p then 0 else 1)]) ∧ w = w' := by
  cases ha : Mon.amtB n
  · have e : Mon.pctB n p = false := by unfold Mon.pctB; rw [ha]; rfl
    rw [e]
    clear e
    go_enter Tryd.func8, Tryd.ntmps8
    go_wp2_with (go_at_call 18; refine (isAmount_any _ _).mono ?_; rintro e w' ⟨rfl, rfl⟩)
    go_ret2
    exact ⟨rfl, rfl⟩
  · by_cases hp : 0 ≤ p ∧ p ≤ 100
    · obtain ⟨p0, p1⟩ := hp
      obtain ⟨n0, n1⟩ := Mon.amt_iff.1 ha
      have e : Mon.pctB n p = true := Mon.pct_iff.2 ⟨⟨n0, n1⟩, p0, p1⟩
      rw [e]
      clear e
      have hc := pct_cases n p
      obtain ⟨x, Hx⟩ : ∃ x, Hid (x = n * p) := ⟨_, Lib.hid rfl⟩
      obtain ⟨y, Hy⟩ : ∃ x, Hid (x = Mon.pct n p) := ⟨_, Lib.hid rfl⟩
      have x0 : 0 ≤ x := by rw [Hx.out]; exact Int.mul_nonneg n0 p0
      have x1 : x ≤ 100000000000000 := by
        rw [Hx.out]
        have h1 : n * p ≤ n * 100 := Int.mul_le_mul_of_nonneg_left p1 n0
        omega
      rw [← Hx.out, ← Hy.out] at hc
      rw [← Hy.out]
      have HC := Lib.hid hc
      clear hc
      have e1 : IntKind.i64.wrap (n * p) = x := by rw [← Hx.out, IntKind.wrap_i64]; omega
      simp only [if_true]
      go_enter Tryd.func8, Tryd.ntmps8
      go_wp2_with (go_at_call 18; refine (isAmount_any _ _).mono ?_; rintro e w' ⟨rfl, rfl⟩)
      all_goals
        go_ret2
        refine ⟨ret_pair ?_, rfl⟩
        have h1 := HC.out
        try simp only [beq_iff_eq, beq_eq_false_iff_ne, ne_eq] at *
        clear e1
        omega
    · have e : Mon.pctB n p = false := by
        cases hb : Mon.pctB n p
        · rfl
        · exact absurd (Mon.pct_iff.1 hb).2 hp
      rw [e]
      clear e
      by_cases p0 : p < 0
      · clear hp
        go_enter Tryd.func8, Tryd.ntmps8
        go_wp2_with (go_at_call 18; refine (isAmount_any _ _).mono ?_; rintro e w' ⟨rfl, rfl⟩)
        go_ret2
        exact ⟨rfl, rfl⟩
      · have p1 : 100 < p := by omega
        clear hp
        go_enter Tryd.func8, Tryd.ntmps8
        go_wp2_with (go_at_call 18; refine (isAmount_any _ _).mono ?_; rintro e w' ⟨rfl, rfl⟩)
        go_ret2
        exact ⟨rfl, rfl⟩

end Go.Proofs.YtijnnfioggjaeaaDoor
