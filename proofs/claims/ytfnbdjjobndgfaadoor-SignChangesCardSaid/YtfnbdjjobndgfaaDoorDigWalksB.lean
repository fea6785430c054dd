/- The walks of package digest: the digits of a number. -/
import Derived.Test.YtfnbdjjobndgfaaDoorDigWalksA
namespace Go.Proofs.YtfnbdjjobndgfaaDoor
open Go.RowKit

theorem hexText (n : Nat) (h : n < 16) : (⟨#[48, 49, 50, 51, 52, 53, 54, 55, 56, 57, 97, 98, 99, 100, 101, 102]⟩ : ByteArray)[n]? = some (Dig.hexDigit n) := by
  have hc : n = 0 ∨ n = 1 ∨ n = 2 ∨ n = 3 ∨ n = 4 ∨ n = 5 ∨ n = 6 ∨ n = 7 ∨ n = 8 ∨ n = 9 ∨ n = 10 ∨ n = 11 ∨ n = 12 ∨ n = 13 ∨ n = 14 ∨ n = 15 := by omega
  rcases hc with rfl | rfl | rfl | rfl | rfl | rfl | rfl | rfl | rfl | rfl | rfl | rfl | rfl | rfl | rfl | rfl <;> rfl
/-- Reading a digit out of the text of all digits. -/
theorem hexIndex (n : Nat) (h : n < 16) (w : World) : (Instr.index 9 (.string ⟨#[48, 49, 50, 51, 52, 53, 54, 55, 56, 57, 97, 98, 99, 100, 101, 102]⟩) (.int .u64 n)).run Tryd.prog w = .ok (.int .u8 (Dig.hexDigit n).toNat) w := by
  simp [Instr.index, run_underlying Tryd.underlying9, asIntOf, hexText n h]

theorem strOfNums_bytes (l : List UInt8) : strOfNums (l.map fun c => (c.toNat : Int)) = ⟨l.toArray⟩ := by
  unfold strOfNums
  congr 2
  rw [List.map_map]
  conv => rhs; rw [← List.map_id l]
  exact List.map_congr_left fun c _ => by simp

set_option maxHeartbeats 1000000 in
theorem digits_any (x : Nat) (hx : x < 18446744073709551616) (w : World) :
    Calls Tryd.prog 61 #[.int .u64 x] w
      fun e w' => e = .returned (.string ⟨(Dig.hex x).toArray⟩) ∧ Below w.heap.size w w' := by
  go_enter Tryd.func61, Tryd.ntmps61
  go_wp2
  go_loopw [0, 5] (fun y i wr => ∃ k z : Nat, k ≤ 16 ∧ Hid (z = x / 16 ^ k) ∧ i = .int .i64 k ∧ y = .int .u64 z ∧ wr = w.alloc (.cells ((Dig.hexCells x k).map (fun c : UInt8 => Value.int .u8 c.toNat)).toArray 76)) (fun _ i _ => 16 - (intOf i).toNat)
  case atStart => exact ⟨0, x, by omega, Lib.hid (by simp), rfl, rfl, by rw [Dig.hexCells_none]; rfl⟩
  case round =>
    obtain ⟨k, z, hk, Hz, rfl, rfl, rfl⟩ := hrel
    have hzlt : z < 18446744073709551616 := by rw [Hz.out]; exact Nat.lt_of_le_of_lt (Nat.div_le_self _ _) hx
    by_cases hlt : k < 16
    · obtain ⟨cs, Hcs⟩ : ∃ cs, Hid (cs = Dig.hexCells x k) := ⟨_, Lib.hid rfl⟩
      obtain ⟨c, hget⟩ : ∃ c, cs[15 - k]? = some c := by
        have hl := Dig.hexCells_length x k
        rw [← Hcs.out] at hl
        exact ⟨_, List.getElem?_eq_getElem (by omega)⟩
      rw [← Hcs.out]
      obtain ⟨d, Hd⟩ : ∃ d, Hid (d = z % 16) := ⟨_, Lib.hid rfl⟩
      have hd : d < 16 := by rw [Hd.out]; omega
      have hand : bits .and .u64 (z : Int) 15 = ((d : Nat) : Int) := by rw [Hd.out]; exact Dig.and15 z hzlt
      have hix := hexIndex d hd
      go_wp2
      go_roundw
      case rel =>
        refine ⟨k + 1, z / 16, by omega, Lib.hid ?_, by go_num, by simp, ?_⟩
        · rw [Hz.out, Nat.pow_succ, Nat.div_div_eq_div_mul]
        · rw [← Dig.hexCells_set x k hlt, ← Hcs.out, ← Hz.out, ← Hd.out]
          simp
      case measure => simp [intOf]; omega
    · obtain rfl : k = 16 := by omega
      have hconv := run_convert_bytes_arg (P := Tryd.prog) (w.alloc (.cells ((Dig.hexCells x 16).map (fun c : UInt8 => Value.int .u8 c.toNat)).toArray 76)) 71 5 Tryd.underlying71 Tryd.underlying5 w.heap.size 0 16 16 ((Dig.hexCells x 16).map fun c => (c.toNat : Int)) (by simp [Dig.hexCells_length]) ?_ 9 Tryd.underlying9
      · go_wp2
        go_ret
        refine ⟨?_, (Below.refl _ _).alloc (Nat.le_refl _) _⟩
        exact ret_str (by rw [Dig.hexCells_all, strOfNums_bytes])
      · intro i hi
        have hl := Dig.hexCells_length x 16
        simp [World.cell?_alloc_new, hl, hi]

end Go.Proofs.YtfnbdjjobndgfaaDoor
