/- collected. -/
import Derived.Test.YtolnpimnoajcaaaLnkAdd
import Derived.Test.YtolnpimnoajcaaaLnkComp
namespace Go.Proofs.Ytolnpimnoajcaaa
open Go.RowKit Go.Maps Go.WideMaps
open Lnk

set_option maxRecDepth 100000 in
set_option maxHeartbeats 8000000 in
theorem coll_any : CollSpec := by
  intro n pb cap p r d hn hcap hu W hp
  have HP := Lib.hid hp
  have HU := Lib.hid hu
  have hmm := @run_makeMap Try.prog
  clear hp hu
  obtain ⟨S, HS⟩ : ∃ x, Hid (x = W.heap.size) := ⟨_, Lib.hid rfl⟩
  obtain ⟨V1, HV1⟩ : ∃ w, Hid (w = W.alloc (.cells #[.func (.func 28) #[.slice (some ⟨pb, 0, none⟩) n cap] #[]] 59)) := ⟨_, Lib.hid rfl⟩
  obtain ⟨V2, HV2⟩ : ∃ w, Hid (w = V1.alloc (.cells #[.slice none 0 0] 26)) := ⟨_, Lib.hid rfl⟩
  obtain ⟨V3, HV3⟩ : ∃ w, Hid (w = V2.alloc (.map #[] 0)) := ⟨_, Lib.hid rfl⟩
  obtain ⟨V4, HV4⟩ : ∃ w, Hid (w = V3.alloc (.cells #[.map (some (S + 1 + 1))] 68)) := ⟨_, Lib.hid rfl⟩
  have z1 : V1.heap.size = S + 1 := by rw [HV1.out, size_alloc, HS.out]
  have z2 : V2.heap.size = S + 1 + 1 := by rw [HV2.out, size_alloc, z1]
  have z3 : V3.heap.size = S + 1 + 1 + 1 := by rw [HV3.out, size_alloc, z2]
  have z4 : V4.heap.size = S + 1 + 1 + 1 + 1 := by rw [HV4.out, size_alloc, z3]
  have b1 : Below W.heap.size W V1 := by rw [HV1.out]; exact (Below.refl _ _).alloc (Nat.le_refl _) _
  have b2 : Below V1.heap.size V1 V2 := by rw [HV2.out]; exact (Below.refl _ _).alloc (Nat.le_refl _) _
  have b3 : Below V2.heap.size V2 V3 := by rw [HV3.out]; exact (Below.refl _ _).alloc (Nat.le_refl _) _
  have b4 : Below V3.heap.size V3 V4 := by rw [HV4.out]; exact (Below.refl _ _).alloc (Nat.le_refl _) _
  have b24 : Below V2.heap.size V2 V4 := below_step b3 b4
  have b14 : Below V1.heap.size V1 V4 := below_step b2 b24
  have b04 : Below W.heap.size W V4 := below_step b1 b14
  have HO : Hid (LOrd W (S + 1 + 1 + 1 + 1) pb (S + 1 + 1) S (S + 1) (S + 1 + 1 + 1)) := Lib.hid ⟨Whole.lt HP.out, by rw [HS.out]; omega, by rw [HS.out]; omega, by rw [HS.out]; omega, by rw [HS.out]; omega, by omega, by omega, by omega, by omega, by omega⟩
  have HA0 : Hid (Adds W (S + 1 + 1 + 1 + 1) pb n cap (S + 1 + 1) S (S + 1) (S + 1 + 1 + 1) r d (groups r 0) 0 (at? r 0) V4) := Lib.hid (by
    refine ⟨⟨b04.os, b04.tape, b04.output, b04.size, fun b hb _ => b04.block b hb⟩, by omega, ⟨p, HU.out, HP.out.below b04⟩, ?_, ?_, ?_, .slice none 0 0, ?_, [], World.ownsRow_nil _ _ _ _, fun k hk => ?_, fun j k u u' b _ hj => ?_⟩
    · exact whole_belowM (by rw [HV1.out, HS.out]; exact Whole.new _ _ _) b14
    · rw [HV4.out, ← z3]; exact Whole.new _ _ _
    · have := JMap.made V2
      rw [← HV3.out, z2] at this
      exact this.below b4 this.lt
    · exact whole_belowM (by rw [HV2.out, ← z1]; exact Whole.new _ _ _) b24
    · simp [groups, reps] at hk
    · simp at hj)
  have HAd := Lib.hid (fun (k : Nat) (hk : k < n) (w : World) (ha : Adds W (S + 1 + 1 + 1 + 1) pb n cap (S + 1 + 1) S (S + 1) (S + 1 + 1 + 1) r d (groups r k) k (at? r k) w) => add_any W (S + 1 + 1 + 1 + 1) pb n cap (S + 1 + 1) S (S + 1) (S + 1 + 1 + 1) r d k hn hcap hk HO.out w ha)
  clear z1 z2 z3 z4 b1 b2 b3 b4 b24 b14 b04
  go_enter Try.func27, Try.ntmps27
  go_wp2_with fail
  rw [← HS.out, ← HV1.out, ← HV2.out, ← HV3.out, ← HV4.out]
  go_loopw [12] (fun i wr => ∃ k : Nat, k ≤ n ∧ i = .int .i64 k ∧ Hid (Adds W (S + 1 + 1 + 1 + 1) pb n cap (S + 1 + 1) S (S + 1) (S + 1 + 1 + 1) r d (groups r k) k (at? r k) wr)) (fun i _ => n - (intOf i).toNat)
  case atStart => exact ⟨0, Nat.zero_le _, by go_num, HA0⟩
  case round =>
    obtain ⟨k, hk, rfl, HR⟩ := hrel
    by_cases hkn : k < n
    · have hd : decide ((k : Int) < n) = true := decide_eq_true (by omega)
      have HC := Lib.hid (HAd.out k hkn wr HR.out)
      go_wp2_with fail
      refine HC.out.mono ?_
      rintro e w1 ⟨rfl, h1⟩
      have HA1 := Lib.hid h1
      clear h1
      go_wp2_with fail
      go_round
      case rel => exact ⟨k + 1, by omega, by go_num, HA1⟩
      case measure => simp [intOf]; omega
    · obtain rfl : k = n := by omega
      have hd : decide ((k : Int) < k) = false := decide_eq_false (by omega)
      obtain ⟨sv, h5, hs⟩ := HR.out.sets
      have HSt := Lib.hid (hs.base (B' := W.heap.size) (by rw [HS.out]; omega))
      have c5 := h5.cell 0
      clear h5 hs
      go_wp2_with fail
      go_ret
      exact ⟨sv, rfl, HSt.out, HR.out.low⟩
end Go.Proofs.Ytolnpimnoajcaaa
