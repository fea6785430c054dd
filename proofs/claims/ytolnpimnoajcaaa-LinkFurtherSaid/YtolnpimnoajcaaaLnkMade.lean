/- The law's made. -/
import Derived.Test.YtolnpimnoajcaaaLnkPick
namespace Go.Proofs.Ytolnpimnoajcaaa
open Go.RowKit
open Evt Lnk

def mkEv (p : ByteArray) : Ev := ⟨1, 0, p, ⟨#[107]⟩, ⟨#[]⟩, ⟨#[]⟩, ⟨#[]⟩, ⟨#[]⟩, 0, 0, 0, 0, 0, 0⟩
set_option maxRecDepth 100000 in
set_option maxHeartbeats 4000000 in
theorem made_any (p : ByteArray) (W : World) :
    Calls Try.prog 24 #[.string p] W fun e w' => ∃ g, e = .returned (.agg #[.slice (some ⟨g, 0, none⟩) 1 1, .bool false]) ∧ Whole w' g 52 (evC (mkEv p)).toArray ∧ W.heap.size ≤ g ∧ Below W.heap.size W w' := by
  obtain ⟨S, HS⟩ : ∃ n, Hid (n = W.heap.size) := ⟨_, Lib.hid rfl⟩
  go_enter Try.func24, Try.ntmps24
  go_wp2_with fail
  obtain ⟨V1, HV1⟩ : ∃ w, Hid (w = W.alloc (.cells #[.slice (some ⟨W.heap.size + 1, 0, none⟩) 1 1, .bool false] 40)) := ⟨_, Lib.hid rfl⟩
  obtain ⟨V, HV⟩ : ∃ w, Hid (w = V1.alloc (.cells (evC (mkEv p)).toArray 52)) := ⟨_, Lib.hid rfl⟩
  have z1 : V1.heap.size = W.heap.size + 1 := by rw [HV1.out, size_alloc]
  have b1 : Below W.heap.size W V1 := by rw [HV1.out]; exact (Below.refl _ _).alloc (Nat.le_refl _) _
  have b2 : Below V1.heap.size V1 V := by rw [HV.out]; exact (Below.refl _ _).alloc (Nat.le_refl _) _
  have hw1 : Whole V W.heap.size 40 #[.slice (some ⟨W.heap.size + 1, 0, none⟩) 1 1, .bool false] := whole_belowM (by rw [HV1.out]; exact Whole.new _ _ _) b2
  have hw2 : Whole V (W.heap.size + 1) 52 (evC (mkEv p)).toArray := by rw [HV.out, ← z1]; exact Whole.new _ _ _
  have e : V = (W.alloc (.cells #[.slice (some ⟨W.heap.size + 1, 0, none⟩) 1 1, .bool false] 40)).alloc (.cells (evC (mkEv p)).toArray 52) := by rw [HV.out, HV1.out]
  rw [show (#[Value.int .i64 1, .int .i64 0, .string p, .string ⟨#[107]⟩, .string ⟨#[]⟩, .string ⟨#[]⟩, .string ⟨#[]⟩, .string ⟨#[]⟩, .int .i64 0, .int .i64 0, .int .i64 0, .int .i64 0, .int .i64 0, .int .i64 0] : Array Value) = (evC (mkEv p)).toArray from rfl, ← e]
  exact bodyPost_ret (results_one (cs := [.slice (some ⟨W.heap.size + 1, 0, none⟩) 1 1, .bool false]) rfl Try.underlying40 rfl _ _ W.heap.size (by kernel_rfl) hw1 rfl) rfl ⟨_, rfl, hw2, by omega, below_step b1 b2⟩
end Go.Proofs.Ytolnpimnoajcaaa
