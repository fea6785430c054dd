/- The walks of money's reference: percentages, the reading of texts, products in two steps. -/
import Derived.Test.YtijnnfioggjaeaaDoorMonRefB
import Derived.RegionTactic
import Derived.Outline
namespace Go.Proofs.YtijnnfioggjaeaaDoor
open Go.RowKit

set_option maxHeartbeats 2000000 in
theorem refPercent_any (n p : Int) (w : World) :
    Calls Tryd.prog 9 #[.int .i64 n, .int .i64 p] w fun e w' => e = .returned (.tuple #[.int .i64 (if Mon.pctB n p then Mon.pct n p else 0), .int .i64 (if Mon.pctB n p then 0 else 1)]) ∧ w = w' := by
  cases ha : Mon.amtB n
  · have e : Mon.pctB n p = false := by unfold Mon.pctB; rw [ha]; rfl
    rw [e]
    clear e
    go_enter Tryd.func9, Tryd.ntmps9
    go_wp2_with (go_at_call 21; refine (refIs_any _ _).mono ?_; rintro e w' ⟨rfl, rfl⟩)
    go_ret2
    exact ⟨rfl, rfl⟩
  · by_cases hp : 0 ≤ p ∧ p ≤ 100
    · obtain ⟨p0, p1⟩ := hp
      obtain ⟨n0, n1⟩ := Mon.amt_iff.1 ha
      have e : Mon.pctB n p = true := Mon.pct_iff.2 ⟨⟨n0, n1⟩, p0, p1⟩
      rw [e]
      clear e
      have hc := pct_cases n p
      obtain ⟨x, Hx⟩ : ∃ x, Hid (x = n * p) := ⟨_, Lib.hid rfl⟩
      obtain ⟨y, Hy⟩ : ∃ x, Hid (x = Mon.pct n p) := ⟨_, Lib.hid rfl⟩
      have x0 : 0 ≤ x := by rw [Hx.out]; exact Int.mul_nonneg n0 p0
      have x1 : x ≤ 100000000000000 := by
        rw [Hx.out]
        have h1 : n * p ≤ n * 100 := Int.mul_le_mul_of_nonneg_left p1 n0
        omega
      rw [← Hx.out, ← Hy.out] at hc
      rw [← Hy.out]
      have HC := Lib.hid hc
      clear hc
      have e1 : IntKind.i64.wrap (n * p) = x := by rw [← Hx.out, IntKind.wrap_i64]; omega
      simp only [if_true]
      go_enter Tryd.func9, Tryd.ntmps9
      go_wp2_with (go_at_call 21; refine (refIs_any _ _).mono ?_; rintro e w' ⟨rfl, rfl⟩)
      all_goals
        go_ret2
        refine ⟨ret_pair ?_, rfl⟩
        have h1 := HC.out
        try simp only [beq_iff_eq, beq_eq_false_iff_ne, ne_eq] at *
        clear e1
        omega
    · have e : Mon.pctB n p = false := by
        cases hb : Mon.pctB n p
        · rfl
        · exact absurd (Mon.pct_iff.1 hb).2 hp
      rw [e]
      clear e
      by_cases p0 : p < 0
      · clear hp
        go_enter Tryd.func9, Tryd.ntmps9
        go_wp2_with (go_at_call 21; refine (refIs_any _ _).mono ?_; rintro e w' ⟨rfl, rfl⟩)
        go_ret2
        exact ⟨rfl, rfl⟩
      · have p1 : 100 < p := by omega
        clear hp
        go_enter Tryd.func9, Tryd.ntmps9
        go_wp2_with (go_at_call 21; refine (refIs_any _ _).mono ?_; rintro e w' ⟨rfl, rfl⟩)
        go_ret2
        exact ⟨rfl, rfl⟩

theorem parse_is {s : ByteArray} {k a : Nat} (hk : k ≤ 16) (hend : k = s.size ∨ k = 16 ∧ k < s.size) (ha : a = Mon.digV (s.data.toList.take k)) :
    (a ≤ 1000000000000 ∧ s = ⟨(Mon.mtext a).toArray⟩ ∧ parseN s = a ∧ parseE s = 0) ∨ ((1000000000000 < a ∨ ¬ s = ⟨(Mon.mtext a).toArray⟩) ∧ parseN s = 0 ∧ parseE s = 8) := by
  by_cases h : a ≤ 1000000000000 ∧ s = ⟨(Mon.mtext a).toArray⟩
  · obtain ⟨h1, h2⟩ := h
    have hx : Mon.isText s.data.toList ∧ Mon.digV s.data.toList = a := by
      rw [h2]
      show Mon.isText (Mon.mtext a) ∧ Mon.digV (Mon.mtext a) = a
      exact ⟨Mon.isText_of a h1, Mon.mtext_value a⟩
    refine Or.inl ⟨h1, h2, ?_, ?_⟩
    · unfold parseN; rw [if_pos hx.1, hx.2]
    · unfold parseE; rw [if_pos hx.1]
  · have hx : ¬ Mon.isText s.data.toList := by
      rintro hx
      have hle : s.size ≤ 14 := by
        rcases Nat.lt_or_ge 14 s.size with hh | hh
        · exact absurd hx (parse_long hh)
        · exact hh
      have hks : k = s.size := by omega
      have e : s.data.toList.take k = s.data.toList := List.take_of_length_le (by have : s.data.toList.length = s.size := rfl; omega)
      rw [e] at ha
      obtain ⟨h1, h2⟩ := hx
      rw [← ha] at h1 h2
      exact h ⟨h1, by apply ByteArray.ext; apply Array.ext'; exact h2⟩
    refine Or.inr ⟨?_, ?_, ?_⟩
    · by_cases h1 : a ≤ 1000000000000
      · exact Or.inr fun h2 => h ⟨h1, h2⟩
      · exact Or.inl (by omega)
    · unfold parseN; rw [if_neg hx]
    · unfold parseE; rw [if_neg hx]

theorem take_byte (s : ByteArray) (k : Nat) (h : k < s.size) : s.data.toList.take (k + 1) = s.data.toList.take k ++ [s[k]] := List.take_succ_eq_append_getElem (by exact h)

set_option maxRecDepth 100000 in
set_option maxHeartbeats 4000000 in
theorem refParse_any (s : ByteArray) (hsz : s.size ≤ 9223372036854775807) (w : World) :
    Calls Tryd.prog 13 #[.string s] w fun e w' => e = .returned (.tuple #[.int .i64 (parseN s), .int .i64 (parseE s)]) ∧ w = w' := by
  obtain ⟨pn, Hpn⟩ : ∃ x, Hid (x = parseN s) := ⟨_, Lib.hid rfl⟩
  obtain ⟨pe, Hpe⟩ : ∃ x, Hid (x = parseE s) := ⟨_, Lib.hid rfl⟩
  rw [← Hpn.out, ← Hpe.out]
  go_enter Tryd.func13, Tryd.ntmps13
  go_wp2
  go_loop [4, 5] (fun v i => ∃ (k a : Nat), k ≤ s.size ∧ k ≤ 16 ∧ i = .int .i64 k ∧ v = .int .i64 a ∧ a < 10 ^ k ∧ Hid (a = Mon.digV (s.data.toList.take k))) (fun _ i => 16 - (intOf i).toNat)
  case atStart => exact ⟨0, 0, by omega, by omega, rfl, rfl, by decide, Lib.hid (by simp [Mon.digV])⟩
  case round =>
    obtain ⟨k, a, hks, hk16, rfl, rfl, hb, HI⟩ := hrel
    by_cases hlt : k < s.size ∧ k < 16
    · obtain ⟨h1, h2⟩ := hlt
      have hi1 : (k : Int) < s.size := by omega
      have hb1 : a < 1000000000000000 := Nat.lt_of_lt_of_le hb (Nat.pow_le_pow_right (by omega) (show k ≤ 15 by omega))
      have hpow : 10 ^ k * 10 = 10 ^ (k + 1) := (Nat.pow_succ ..).symm
      have hr := UInt8.toNat_lt s[k]
      have HS : Hid (Mon.digV (s.data.toList.take (k + 1)) = if 48 ≤ (s[k]).toNat ∧ (s[k]).toNat ≤ 57 then 10 * a + ((s[k]).toNat - 48) else a) := Lib.hid (by
        rw [take_byte s k h1, Mon.digV_snoc, ← HI.out]; rfl)
      have hpw := Lib.hid hpow
      have hbb := Lib.hid hb
      clear hpow hb
      obtain ⟨r, Hr⟩ : ∃ r, Hid (r = (s[k]).toNat) := ⟨_, Lib.hid rfl⟩
      by_cases h48 : (48 : Int) ≤ (s[k]).toNat
      · by_cases h57 : ((s[k]).toNat : Int) ≤ 57
        · have q1 : IntKind.u8.wrap (((s[k]).toNat : Int) - 48) = ((s[k]).toNat : Int) - 48 := by have e : ∀ n : Int, IntKind.u8.wrap n = n % 256 := fun n => rfl
                                                                                                  rw [e]; omega
          go_wp2
          go_round
          case rel =>
            refine ⟨k + 1, 10 * a + ((s[k]).toNat - 48), by omega, by omega, by go_num, by go_num, ?_, Lib.hid ?_⟩
            · have := hpw.out; have := hbb.out; omega
            · rw [HS.out, if_pos ⟨by omega, by omega⟩]
          case measure => simp [intOf]; omega
        · go_wp2
          go_round
          case rel =>
            refine ⟨k + 1, a, by omega, by omega, by go_num, rfl, ?_, Lib.hid ?_⟩
            · have := hpw.out; have := hbb.out; omega
            · rw [HS.out, if_neg (by omega)]
          case measure => simp [intOf]; omega
      · go_wp2
        go_round
        case rel =>
          refine ⟨k + 1, a, by omega, by omega, by go_num, rfl, ?_, Lib.hid ?_⟩
          · have := hpw.out; have := hbb.out; omega
          · rw [HS.out, if_neg (by omega)]
        case measure => simp [intOf]; omega
    · have hend : k = s.size ∨ k = 16 ∧ k < s.size := by omega
      have HP := Lib.hid (parse_is hk16 hend HI.out)
      have hcase : ¬ (k : Int) < s.size ∨ ((k : Int) < s.size ∧ ¬ (k : Int) < 16) := by omega
      have hbb := Lib.hid hb
      clear hb hlt hend
      rcases HP.out with ⟨ha, he, hn1, hn2⟩ | ⟨hne, hn1, hn2⟩
      · have HR : Hid (pn = a ∧ pe = 0) := Lib.hid ⟨Hpn.out.trans hn1, Hpe.out.trans hn2⟩
        have HX : Hid (∀ W, Calls Tryd.prog 11 #[.int .i64 a] W fun e w' => e = .returned (.tuple #[.string s, .int .i64 0]) ∧ W = w') := Lib.hid (fun W => by
          have := refText03_yes a ha W; rw [← he] at this; exact this)
        have he1 : (s.toList == s.toList) = true := beq_self_eq_true _
        clear he hn1 hn2
        rcases hcase with h1 | ⟨h1, h2⟩
        all_goals
          go_wp2_with fail
          refine (HX.out _).mono ?_
          rintro e W ⟨rfl, rfl⟩
          go_wp2
          go_ret2
          exact ⟨by rw [HR.out.1, HR.out.2] <;> rfl, rfl⟩
      · have HR : Hid (pn = 0 ∧ pe = 8) := Lib.hid ⟨Hpn.out.trans hn1, Hpe.out.trans hn2⟩
        clear hn1 hn2
        by_cases ha : a ≤ 1000000000000
        · obtain ⟨T, HTt⟩ : ∃ T : ByteArray, Hid (T = ⟨(Mon.mtext a).toArray⟩) := ⟨_, Lib.hid rfl⟩
          have he0 : ¬ T = s := by
            rw [HTt.out]
            rcases hne with h | h
            · omega
            · exact fun hh => h hh.symm
          have HX : Hid (∀ W, Calls Tryd.prog 11 #[.int .i64 a] W fun e w' => e = .returned (.tuple #[.string T, .int .i64 0]) ∧ W = w') := Lib.hid (fun W => by
            have := refText03_yes a ha W; rw [← HTt.out] at this; exact this)
          have he1 : (T.toList == s.toList) = false := beq_eq_false_iff_ne.2 (by rw [ByteArray.toList_eq, ByteArray.toList_eq]; exact fun h => he0 (by apply ByteArray.ext; apply Array.ext'; exact h))
          clear he0 hne
          rcases hcase with h1 | ⟨h1, h2⟩
          all_goals
            go_wp2_with fail
            refine (HX.out _).mono ?_
            rintro e W ⟨rfl, rfl⟩
            go_wp2
            go_ret2
            exact ⟨by rw [HR.out.1, HR.out.2] <;> rfl, rfl⟩
        · have HX : Hid (∀ W, Calls Tryd.prog 11 #[.int .i64 a] W fun e w' => e = .returned (.tuple #[.string ⟨#[]⟩, .int .i64 1]) ∧ W = w') := Lib.hid (fun W => refText03_no a (by omega) W)
          clear hne
          rcases hcase with h1 | ⟨h1, h2⟩
          all_goals
            go_wp2_with fail
            refine (HX.out _).mono ?_
            rintro e W ⟨rfl, rfl⟩
            go_wp2
            go_ret2
            exact ⟨by rw [HR.out.1, HR.out.2] <;> rfl, rfl⟩

theorem parts_math {a b c : Int} (hc : 0 < c) : (a / 1000000 * b / c) * 1000000 + ((a / 1000000 * b % c) * 1000000 + a % 1000000 * b) / c = a * b / c ∧ ((a / 1000000 * b % c) * 1000000 + a % 1000000 * b) % c = a * b % c := by
  obtain ⟨x, hx⟩ : ∃ x, x = a / 1000000 * b := ⟨_, rfl⟩
  obtain ⟨y, hy⟩ : ∃ y, y = a % 1000000 * b := ⟨_, rfl⟩
  have e1 : a * b = x * 1000000 + y := by
    have h : a = a / 1000000 * 1000000 + a % 1000000 := by omega
    have h2 : a * b = (a / 1000000 * 1000000 + a % 1000000) * b := by rw [← h]
    rw [h2, hx, hy, Int.add_mul, Int.mul_assoc, Int.mul_assoc, Int.mul_comm 1000000 b]
  rw [← hx, ← hy, e1]
  have e2 : x * 1000000 + y = (x % c * 1000000 + y) + (x / c * 1000000) * c := by
    have h : x = x % c + x / c * c := by have := Int.emod_add_mul_ediv x c; rw [Int.mul_comm]; omega
    have h2 : x * 1000000 = (x % c + x / c * c) * 1000000 := by rw [← h]
    rw [h2, Int.add_mul, Int.mul_assoc, Int.mul_comm c 1000000, ← Int.mul_assoc]
    omega
  rw [e2]
  refine ⟨?_, ?_⟩
  · rw [Int.add_mul_ediv_right _ _ (by omega)]; omega
  · rw [Int.add_mul_emod_self_right]

set_option maxHeartbeats 1000000 in
theorem refParts_any (a b c : Int) (ha : 0 ≤ a ∧ a ≤ 1000000000000) (hb : 0 ≤ b ∧ b ≤ 9999999) (hc : 1 ≤ c ∧ c ≤ 159999984) (hbc : b ≤ c) (w : World) :
    Calls Tryd.prog 22 #[.int .i64 a, .int .i64 b, .int .i64 c] w fun e w' => e = .returned (.tuple #[.int .i64 (a * b / c), .int .i64 (a * b % c)]) ∧ Below w.heap.size w w' := by
  obtain ⟨h, Hh⟩ : ∃ x, Hid (x = a / 1000000) := ⟨_, Lib.hid rfl⟩
  obtain ⟨l, Hl⟩ : ∃ x, Hid (x = a % 1000000) := ⟨_, Lib.hid rfl⟩
  obtain ⟨x, Hx⟩ : ∃ x, Hid (x = h * b) := ⟨_, Lib.hid rfl⟩
  obtain ⟨y, Hy⟩ : ∃ x, Hid (x = l * b) := ⟨_, Lib.hid rfl⟩
  have hm := parts_math (a := a) (b := b) (c := c) (by omega)
  rw [← Hh.out, ← Hl.out, ← Hx.out, ← Hy.out] at hm
  obtain ⟨q, Hq⟩ : ∃ z, Hid (z = x / c) := ⟨_, Lib.hid rfl⟩
  obtain ⟨r, Hr⟩ : ∃ z, Hid (z = x % c) := ⟨_, Lib.hid rfl⟩
  rw [← Hq.out, ← Hr.out] at hm
  rw [← hm.1, ← hm.2]
  obtain ⟨a0, a1⟩ := ha
  obtain ⟨b0, b1⟩ := hb
  obtain ⟨c0, c1⟩ := hc
  have h0 : 0 ≤ h ∧ h ≤ 1000000 := by have := Hh.out; omega
  have l0 : 0 ≤ l ∧ l ≤ 999999 := by have := Hl.out; omega
  have x0 : 0 ≤ x ∧ x ≤ 9999999000000 := by
    rw [Hx.out]
    refine ⟨Int.mul_nonneg h0.1 b0, ?_⟩
    have := Int.mul_le_mul h0.2 b1 b0 (by omega)
    omega
  have y0 : 0 ≤ y ∧ y ≤ 9999989000001 := by
    rw [Hy.out]
    refine ⟨Int.mul_nonneg l0.1 b0, ?_⟩
    have := Int.mul_le_mul l0.2 b1 b0 (by omega)
    omega
  have r0 : 0 ≤ r ∧ r < 159999984 := by
    rw [Hr.out]
    have := Int.emod_nonneg x (show c ≠ 0 by omega)
    have := Int.emod_lt_of_pos x (show 0 < c by omega)
    omega
  have q0 : 0 ≤ q ∧ q ≤ 1000000 := by
    rw [Hq.out]
    refine ⟨Int.ediv_nonneg x0.1 (by omega), Int.le_trans (Int.ediv_le_of_le_mul (by omega) ?_) h0.2⟩
    rw [Hx.out]
    exact Int.mul_le_mul_of_nonneg_left hbc h0.1
  obtain ⟨z, Hz⟩ : ∃ z, Hid (z = r * 1000000 + y) := ⟨_, Lib.hid rfl⟩
  have z0 : 0 ≤ z ∧ z ≤ 170000000000000 := by rw [Hz.out]; omega
  obtain ⟨u, Hu⟩ : ∃ u, Hid (u = z / c) := ⟨_, Lib.hid rfl⟩
  obtain ⟨v, Hv⟩ : ∃ u, Hid (u = z % c) := ⟨_, Lib.hid rfl⟩
  have u0 : 0 ≤ u ∧ u ≤ 170000000000000 := by
    rw [Hu.out]
    exact ⟨Int.ediv_nonneg z0.1 (by omega), Int.le_trans (Int.ediv_le_self _ z0.1) z0.2⟩
  clear hm
  have e1 : a / 1000000 = h := Hh.out.symm
  have e2 : a % 1000000 = l := Hl.out.symm
  have e3 : IntKind.i64.wrap (h * b) = x := by rw [← Hx.out, IntKind.wrap_i64]; omega
  have e4 : IntKind.i64.wrap (l * b) = y := by rw [← Hy.out, IntKind.wrap_i64]; omega
  have e5 : x / c = q := Hq.out.symm
  have e6 : x % c = r := Hr.out.symm
  have e7 : IntKind.i64.wrap (r * 1000000 + y) = z := by rw [← Hz.out, IntKind.wrap_i64]; omega
  have e8 : z / c = u := Hu.out.symm
  have e9 : z % c = v := Hv.out.symm
  have ez : ¬ c = 0 := by omega
  have ez2 : (c == 0) = false := by simp [ez]
  rw [← Hz.out, e8, e9]
  have e10 : r * 1000000 + y = z := Hz.out.symm
  have HE : Hid (z = r * 1000000 + y) := Hz
  go_enter Tryd.func22, Tryd.ntmps22
  go_wp2
  go_region
  go_wp2
  go_ret2
  refine ⟨?_, (Below.refl _ _).drew⟩
  rw [← e9]
  rfl

end Go.Proofs.YtijnnfioggjaeaaDoor
