/- The walks of the reference's digests. -/
import Derived.Test.YtfnbdjjobndgfaaDoorSgJoinedRef
namespace Go.Proofs.YtfnbdjjobndgfaaDoor
open Go.RowKit

set_option maxHeartbeats 400000 in
theorem refMix_any (x : Nat) (hx : x < 18446744073709551616) (w : World) :
    Calls Tryd.prog 48 #[.int .u64 x] w fun e w' => e = .returned (.int .u64 (Dig.mixN x)) ∧ w = w' := by
  have _ := hx
  go_enter Tryd.func48, Tryd.ntmps48
  go_wp2
  go_ret
  exact ⟨ret_int (Dig.mix_walk x), rfl⟩

theorem num_step2 (l : List UInt8) (hl : l.length = 8) (j : Nat) (hj : j < 8) : Dig.num (l.take (j + 1)) = Dig.num (l.take j) * 256 + (l.getD j 0).toNat := by
  rw [List.take_succ_eq_append_getElem (by omega), Dig.num_snoc, List.getD_eq_getElem?_getD, List.getElem?_eq_getElem (by omega)]; rfl
theorem num_take_lt (l : List UInt8) (j : Nat) (hj : j ≤ 7) : Dig.num (l.take j) < 72057594037927936 := by
  have h1 := Dig.num_lt (l.take j)
  have h2 : (l.take j).length ≤ 7 := by rw [List.length_take]; omega
  exact Nat.lt_of_lt_of_le h1 (Nat.le_trans (Nat.pow_le_pow_right (by decide) h2) (by decide))
theorem blk_getD (l : List UInt8) (p j : Nat) (hj : j < 8) : (Dig.blk l p).getD j 0 = l.getD (p + j) 0 := by
  have hc : j = 0 ∨ j = 1 ∨ j = 2 ∨ j = 3 ∨ j = 4 ∨ j = 5 ∨ j = 6 ∨ j = 7 := by omega
  rcases hc with rfl | rfl | rfl | rfl | rfl | rfl | rfl | rfl <;> rfl
theorem hex_piece (m : Nat) : (⟨#[48, 49, 50, 51, 52, 53, 54, 55, 56, 57, 97, 98, 99, 100, 101, 102]⟩ : ByteArray).extract (m % 16) (m % 16 + 1) = ⟨#[Dig.hexDigit (m % 16)]⟩ := by
  have hc : m % 16 = 0 ∨ m % 16 = 1 ∨ m % 16 = 2 ∨ m % 16 = 3 ∨ m % 16 = 4 ∨ m % 16 = 5 ∨ m % 16 = 6 ∨ m % 16 = 7 ∨ m % 16 = 8 ∨ m % 16 = 9 ∨ m % 16 = 10 ∨ m % 16 = 11 ∨ m % 16 = 12 ∨ m % 16 = 13 ∨ m % 16 = 14 ∨ m % 16 = 15 := by omega
  rcases hc with h | h | h | h | h | h | h | h | h | h | h | h | h | h | h | h <;> rw [h] <;> decide +kernel
theorem hex_drop (x i : Nat) (hi : i < 16) : (Dig.hex x).drop (15 - i) = Dig.hexDigit (x / 16 ^ i % 16) :: (Dig.hex x).drop (16 - i) := by
  have hl := Dig.hex_length x
  rw [List.drop_eq_getElem_cons (by omega)]
  congr 1
  · simp only [Dig.hex, List.getElem_map, List.getElem_range]
    rw [show 15 - (15 - i) = i by omega]
  · rw [show 15 - i + 1 = 16 - i by omega]
theorem hex_cons (x i : Nat) (hi : i < 16) : (⟨#[48, 49, 50, 51, 52, 53, 54, 55, 56, 57, 97, 98, 99, 100, 101, 102]⟩ : ByteArray).extract (x / 16 ^ i % 16) (x / 16 ^ i % 16 + 1) ++ ⟨((Dig.hex x).drop (16 - i)).toArray⟩ = ⟨((Dig.hex x).drop (15 - i)).toArray⟩ := by
  rw [hex_piece, hex_drop x i hi]
  apply ByteArray.ext
  simp

set_option maxHeartbeats 2000000 in
theorem refSum_any (s : ByteArray) (hs : s.size ≤ 140737488351232) (w : World) :
    Calls Tryd.prog 25 #[.string s] w fun e w' => e = .returned (.string (digestOf s.data.toList)) ∧ w = w' := by
  have hlenc : bits .xor .u64 7046029254386353131 (s.size : Int) = ((7046029254386353131 ^^^ s.size : Nat) : Int) := bits_xor_u64_nat 7046029254386353131 s.size (by decide) (by omega)
  obtain ⟨st0, Hst0⟩ : ∃ n, Hid (n = 7046029254386353131 ^^^ s.size) := ⟨_, Lib.hid rfl⟩
  rw [← Hst0.out] at hlenc
  go_enter Tryd.func25, Tryd.ntmps25
  go_wp2_with fail
  clear hlenc
  go_loop [3, 4] (fun x i => ∃ k p st : Nat, k ≤ s.size / 8 + 1 ∧ Hid (p = k * 8) ∧ i = .int .i64 p ∧ x = .int .u64 st ∧ Hid (st = Dig.state s.data.toList k)) (fun _ i => s.size + 9 - (intOf i).toNat)
  case atStart => exact ⟨0, 0, st0, by omega, Lib.hid rfl, rfl, rfl, by rw [Hst0.out]; exact Lib.hid rfl⟩
  case round =>
    obtain ⟨k, p, st, hk, Hp, rfl, rfl, Hst⟩ := hrel
    have hstlt : st < 18446744073709551616 := by rw [Hst.out]; exact Dig.state_lt _ (by show s.size < _; omega) k
    have Hstlt := Lib.hid hstlt
    clear hstlt
    by_cases hlt : p ≤ s.size
    · have hk2 : k ≤ s.size / 8 := by have := Hp.out; omega
      go_wp2_with fail
      go_loop [5, 6] (fun b i => ∃ j q : Nat, j ≤ 8 ∧ i = .int .i64 q ∧ q = p + j ∧ b = .int .u64 (Dig.num ((Dig.blk s.data.toList p).take j))) (fun _ i => p + 8 - (intOf i).toNat)
      case atStart => exact ⟨0, p, by omega, rfl, by omega, rfl⟩
      case round =>
        obtain ⟨j, q, hj, rfl, rfl, rfl⟩ := hrel
        by_cases hj8 : j < 8
        · obtain ⟨b, Hb⟩ : ∃ b, Hid (b = Dig.num ((Dig.blk s.data.toList p).take j)) := ⟨_, Lib.hid rfl⟩
          have Hb2 : Hid (b < 72057594037927936) := by have := num_take_lt (Dig.blk s.data.toList p) j (by omega); rw [← Hb.out] at this; exact Lib.hid this
          obtain ⟨B, HB⟩ : ∃ B, Hid (B = b * 256) := ⟨_, Lib.hid rfl⟩
          have e1 : IntKind.u64.wrap ((b : Int) * 256) = (B : Int) := by rw [IntKind.wrap_u64]; have := Hb2.out; have := HB.out; omega
          have Hnext : Hid (Dig.num ((Dig.blk s.data.toList p).take (j + 1)) = b * 256 + (s.data.toList.getD (p + j) 0).toNat) := by
            rw [num_step2 _ (Dig.blk_length _ _) j hj8, blk_getD _ _ _ hj8, Hb.out]; exact Lib.hid rfl
          rw [← Hb.out]
          by_cases hin : p + j < s.size
          · have hcl : (s[p + j].toNat : Int) < 256 := by have := s[p + j].toNat_lt; omega
            obtain ⟨N, HN⟩ : ∃ N, Hid (N = b * 256 + s[p + j].toNat) := ⟨_, Lib.hid rfl⟩
            have e2 : IntKind.u64.wrap ((B : Int) + (s[p + j].toNat : Int)) = (N : Int) := by rw [IntKind.wrap_u64]; have := Hb2.out; have := HB.out; have := HN.out; omega
            have e3 : IntKind.u64.wrap (s[p + j].toNat : Int) = (s[p + j].toNat : Int) := by rw [IntKind.wrap_u64]; omega
            clear hcl
            have Hget : Hid (s.data.toList.getD (p + j) 0 = s[p + j]) := by
              rw [List.getD_eq_getElem?_getD, List.getElem?_eq_getElem (show p + j < s.data.toList.length from hin)]; exact Lib.hid rfl
            go_wp2
            go_round
            case rel => exact ⟨j + 1, p + j + 1, by omega, by go_num, by omega, by rw [Hnext.out, Hget.out, HN.out]⟩
            case measure => simp [intOf]; omega
          · have Hget : Hid (s.data.toList.getD (p + j) 0 = 0) := by
              rw [List.getD_eq_getElem?_getD, List.getElem?_eq_none (show s.data.toList.length ≤ p + j from by show s.size ≤ _; omega)]; exact Lib.hid rfl
            have Hn2 : Hid (Dig.num ((Dig.blk s.data.toList p).take (j + 1)) = B) := by rw [Hnext.out, Hget.out, HB.out]; exact Lib.hid (Nat.add_zero _)
            go_wp2
            go_round
            case rel => exact ⟨j + 1, p + j + 1, by omega, by go_num, by omega, by rw [Hn2.out]⟩
            case measure => simp [intOf]; omega
        · obtain rfl : j = 8 := by omega
          have Hfull : Hid ((Dig.blk s.data.toList p).take 8 = Dig.blk s.data.toList p) := Lib.hid (List.take_of_length_le (by rw [Dig.blk_length]; omega))
          rw [Hfull.out]
          have hnb := Dig.num_blk_lt s.data.toList p
          obtain ⟨nb, Hnb⟩ : ∃ nb, Hid (nb = Dig.num (Dig.blk s.data.toList p)) := ⟨_, Lib.hid rfl⟩
          rw [← Hnb.out] at hnb ⊢
          have hx : bits .xor .u64 (st : Int) (nb : Int) = ((st ^^^ nb : Nat) : Int) := bits_xor_u64_nat st nb Hstlt.out hnb
          have hxl := Dig.xor_lt Hstlt.out hnb
          clear hnb
          go_wp2_with fail
          refine (refMix_any (st ^^^ nb) hxl _).mono ?_
          rintro e w' ⟨rfl, rfl⟩
          go_wp2
          go_round
          case rel => exact ⟨k + 1, p + 8, _, by omega, Lib.hid (by rw [Hp.out]; omega), by go_num, rfl, by rw [Hst.out, Hnb.out, Hp.out]; exact Lib.hid rfl⟩
          case measure => simp [intOf]; omega
    · have hke : k = s.size / 8 + 1 := by have := Hp.out; omega
      have Hsum : Hid (st = Dig.sum s.data.toList) := by rw [Hst.out, hke]; exact Lib.hid rfl
      clear hke
      go_wp2_with fail
      go_loop [3, 7, 8] (fun x t i => ∃ k z : Nat, k ≤ 16 ∧ i = .int .i64 k ∧ x = .int .u64 z ∧ Hid (z = st / 16 ^ k) ∧ ∃ tl, t = .string ⟨List.toArray tl⟩ ∧ Hid (tl = (Dig.hex st).drop (16 - k))) (fun _ _ i => 16 - (intOf i).toNat)
      case atStart =>
        exact ⟨0, st, by omega, rfl, rfl, Lib.hid (by simp), [], rfl, Lib.hid (by rw [List.drop_of_length_le (by rw [Dig.hex_length]; omega)])⟩
      case round =>
        obtain ⟨m, z, hm, rfl, rfl, Hz, tl, rfl, Htl⟩ := hrel
        by_cases hlt16 : m < 16
        · have hzl : z < 18446744073709551616 := by rw [Hz.out]; exact Nat.lt_of_le_of_lt (Nat.div_le_self _ _) Hstlt.out
          have Hcons := Lib.hid (hex_cons st m hlt16)
          have hsz : tl.length ≤ 16 := by rw [Htl.out, List.length_drop, Dig.hex_length]; omega
          go_wp2
          go_round
          case rel =>
            refine ⟨m + 1, z / 16, by omega, by go_num, by go_num, Lib.hid (by rw [Hz.out, Nat.pow_succ, Nat.div_div_eq_div_mul]), (Dig.hex st).drop (15 - m), ?_, Lib.hid (by rw [show 16 - (m + 1) = 15 - m by omega])⟩
            rw [← Hcons.out, Hz.out, Htl.out]
          case measure => simp [intOf]; omega
        · obtain rfl : m = 16 := by omega
          go_wp2
          go_ret
          exact ⟨ret_str (by rw [Htl.out, Hsum.out]; rfl), rfl⟩

end Go.Proofs.YtfnbdjjobndgfaaDoor
