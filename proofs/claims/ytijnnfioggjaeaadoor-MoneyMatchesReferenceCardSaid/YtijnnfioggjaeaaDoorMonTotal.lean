/- The walks of the reference's Total and Sum. -/
import Derived.Test.YtijnnfioggjaeaaDoorBase
import Derived.Test.YtijnnfioggjaeaaDoorOpenSl
import Derived.Test.YtijnnfioggjaeaaDoorMonMath
namespace Go.Proofs.YtijnnfioggjaeaaDoor
open Go.RowKit

def Mon.totR (zs : List Int) : Int := if Mon.totB zs then zs.sum else -1
set_option maxHeartbeats 1000000 in
theorem refTotal_long (n : Nat) (hn : 16 < n) (hn2 : n ≤ 140737488351232) (ao : Option Addr) (cap : Nat) (w : World) :
    Calls Tryd.prog 15 #[.slice ao n cap] w fun e w' => e = .returned (.int .i64 (-1)) ∧ w = w' := by
  have h1 : (16 : Int) < n := by omega
  go_enter Tryd.func15, Tryd.ntmps15
  go_wp2
  go_ret
  exact ⟨rfl, rfl⟩

set_option maxRecDepth 100000 in
set_option maxHeartbeats 4000000 in
theorem refTotal_short (zs : List Int) (hn : zs.length ≤ 16) (ao : Option Addr) (cap : Nat) (w : World) (hz : IsInts w ao zs) :
    Calls Tryd.prog 15 #[.slice ao zs.length cap] w fun e w' => e = .returned (.int .i64 (Mon.totR zs)) ∧ w = w' := by
  obtain ⟨len, Hl⟩ : ∃ len, Hid (len = zs.length) := ⟨_, Lib.hid rfl⟩
  obtain ⟨res, Hr⟩ : ∃ r, Hid (r = Mon.totR zs) := ⟨_, Lib.hid rfl⟩
  have HZ := Lib.hid hz
  rw [← Hl.out, ← Hr.out]
  rw [← Hl.out] at hn
  have h1 : ¬ (16 : Int) < len := by omega
  clear hz
  go_enter Tryd.func15, Tryd.ntmps15
  go_wp2
  go_loop [3, 4] (fun t i => ∃ (j : Nat) (S : Int), j ≤ len ∧ i = .int .i64 j ∧ t = .int .i64 S ∧ 0 ≤ S ∧ S ≤ 9999999 * j ∧ Hid (S = (zs.take j).sum) ∧ Hid (∀ z ∈ zs.take j, 0 ≤ z ∧ z ≤ 9999999)) (fun _ i => len - (intOf i).toNat)
  case atStart => exact ⟨0, 0, by omega, rfl, rfl, by omega, by omega, Lib.hid (by simp), Lib.hid (by simp)⟩
  case round =>
    obtain ⟨j, S, hj, rfl, rfl, s1, s2, HS, HA⟩ := hrel
    by_cases hlt : j < len
    · have hjz : j < zs.length := by rw [← Hl.out]; exact hlt
      rcases HZ.out with hnil | ⟨bk, off, rfl, hbk, hc⟩
      · rw [hnil] at hjz; simp at hjz
      obtain ⟨z, Hz⟩ : ∃ z, Hid (z = zs[j]) := ⟨_, Lib.hid rfl⟩
      have hj' : (j : Int) < len := by omega
      have hcell : w.cell? ⟨bk, off + j, none⟩ = some (.int .i64 z) := by rw [hc j hjz, Hz.out]
      replace hc := Lib.hid hc
      have hbad : (z < 0 ∨ 9999999 < z) → Hid (res = -1) := fun h => Lib.hid (by
        rw [Hr.out]
        unfold Mon.totR
        rw [if_neg]
        intro hh
        unfold Mon.totB at hh
        rw [Bool.and_eq_true, Mon.ok_iff] at hh
        have := hh.1.2 z (by rw [Hz.out]; exact List.getElem_mem _)
        omega)
      have hcase : z < 0 ∨ (¬ z < 0 ∧ 9999999 < z) ∨ (¬ z < 0 ∧ ¬ 9999999 < z) := by omega
      rcases hcase with z1 | ⟨z1, z2⟩ | ⟨z1, z2⟩
      · have HR := hbad (Or.inl z1)
        clear hbad
        go_wp2
        go_ret
        exact ⟨by rw [HR.out] <;> rfl, rfl⟩
      · have HR := hbad (Or.inr z2)
        clear hbad
        go_wp2
        go_ret
        exact ⟨by rw [HR.out] <;> rfl, rfl⟩
      · clear hbad
        have e1 : IntKind.i64.wrap (S + z) = S + z := by rw [IntKind.wrap_i64]; omega
        go_wp2
        go_round
        case rel =>
          refine ⟨j + 1, S + z, by omega, by go_num, rfl, by omega, by omega, Lib.hid ?_, Lib.hid ?_⟩
          · rw [List.take_succ_eq_append_getElem hjz, Mon.sum_snoc, ← HS.out, ← Hz.out]
          · intro u hu
            rw [List.take_succ_eq_append_getElem hjz, ← Hz.out] at hu
            rcases List.mem_append.1 hu with h | h
            · exact HA.out u h
            · rw [List.mem_singleton.1 h]; omega
        case measure => simp [intOf]; omega
    · obtain rfl : len = j := by omega
      have hS : S = zs.sum := by have := HS.out; rwa [Hl.out, List.take_length] at this
      have hok : Mon.okB zs = true := by
        have := HA.out
        rw [Hl.out, List.take_length] at this
        exact Mon.ok_iff.2 ⟨by rw [← Hl.out]; exact hn, this⟩
      by_cases h0 : S = 0
      · have HR : Hid (res = -1) := Lib.hid (by rw [Hr.out]; unfold Mon.totR Mon.totB; rw [if_neg]; rw [← hS, h0]; simp)
        clear hS hok
        subst h0
        go_wp2
        go_ret
        exact ⟨by rw [HR.out] <;> rfl, rfl⟩
      · have HR : Hid (res = S) := Lib.hid (by rw [Hr.out]; unfold Mon.totR Mon.totB; rw [hok, ← hS, decide_eq_true (by omega)]; rfl)
        have e1 : (S == 0) = false := by simp [h0]
        clear hS hok h0
        go_wp2
        go_ret
        exact ⟨by rw [HR.out] <;> rfl, rfl⟩

theorem refTotal_any (zs : List Int) (hn : zs.length ≤ 140737488351232) (ao : Option Addr) (cap : Nat) (w : World) (hz : IsInts w ao zs) :
    Calls Tryd.prog 15 #[.slice ao zs.length cap] w fun e w' => e = .returned (.int .i64 (Mon.totR zs)) ∧ w = w' := by
  by_cases h : zs.length ≤ 16
  · exact refTotal_short zs h ao cap w hz
  · have e : Mon.totR zs = -1 := by
      unfold Mon.totR Mon.totB
      rw [if_neg]
      intro hh
      rw [Bool.and_eq_true, Mon.ok_iff] at hh
      exact h hh.1.1
    rw [e]
    exact refTotal_long _ (by omega) hn ao cap w

set_option maxRecDepth 100000 in
set_option maxHeartbeats 4000000 in
theorem refSum_any (zs : List Int) (hn : zs.length ≤ 16) (hb : ∀ z ∈ zs, 0 ≤ z ∧ z ≤ 1000000000001) (ao : Option Addr) (cap : Nat) (w : World) (hz : IsInts w ao zs) :
    Calls Tryd.prog 16 #[.slice ao zs.length cap] w fun e w' => e = .returned (.int .i64 zs.sum) ∧ w = w' := by
  obtain ⟨len, Hl⟩ : ∃ len, Hid (len = zs.length) := ⟨_, Lib.hid rfl⟩
  obtain ⟨res, Hr⟩ : ∃ r, Hid (r = zs.sum) := ⟨_, Lib.hid rfl⟩
  have HZ := Lib.hid hz
  have HBd := Lib.hid hb
  rw [← Hl.out, ← Hr.out]
  rw [← Hl.out] at hn
  clear hz hb
  go_enter Tryd.func16, Tryd.ntmps16
  go_wp2
  go_loop [3, 4] (fun t i => ∃ (j : Nat) (S : Int), j ≤ len ∧ i = .int .i64 j ∧ t = .int .i64 S ∧ 0 ≤ S ∧ S ≤ 1000000000001 * j ∧ Hid (S = (zs.take j).sum)) (fun _ i => len - (intOf i).toNat)
  case atStart => exact ⟨0, 0, by omega, rfl, rfl, by omega, by omega, Lib.hid (by simp)⟩
  case round =>
    obtain ⟨j, S, hj, rfl, rfl, s1, s2, HS⟩ := hrel
    by_cases hlt : j < len
    · have hjz : j < zs.length := by rw [← Hl.out]; exact hlt
      rcases HZ.out with hnil | ⟨bk, off, rfl, hbk, hc⟩
      · rw [hnil] at hjz; simp at hjz
      obtain ⟨z, Hz⟩ : ∃ z, Hid (z = zs[j]) := ⟨_, Lib.hid rfl⟩
      have hj' : (j : Int) < len := by omega
      have hcell : w.cell? ⟨bk, off + j, none⟩ = some (.int .i64 z) := by rw [hc j hjz, Hz.out]
      have hzb := HBd.out z (by rw [Hz.out]; exact List.getElem_mem _)
      replace hc := Lib.hid hc
      have e1 : IntKind.i64.wrap (S + z) = S + z := by rw [IntKind.wrap_i64]; omega
      go_wp2
      go_round
      case rel =>
        refine ⟨j + 1, S + z, by omega, by go_num, rfl, by omega, by omega, Lib.hid ?_⟩
        rw [List.take_succ_eq_append_getElem hjz, Mon.sum_snoc, ← HS.out, ← Hz.out]
      case measure => simp [intOf]; omega
    · obtain rfl : len = j := by omega
      have hS : S = zs.sum := by have := HS.out; rwa [Hl.out, List.take_length] at this
      go_wp2
      go_ret
      exact ⟨by rw [Hr.out, ← hS] <;> rfl, rfl⟩

end Go.Proofs.YtijnnfioggjaeaaDoor
