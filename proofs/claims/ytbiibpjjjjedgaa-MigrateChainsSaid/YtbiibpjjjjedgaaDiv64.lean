/- The walk of math/bits' division of a number of two words. -/
import Derived.Test.YtbiibpjjjjedgaaBase
import Derived.Test.YtbiibpjjjjedgaaShelf
import Derived.Test.YtbiibpjjjjedgaaDivMath
import Derived.Deep.QuietTactic
import Derived.BigQuiet
import Derived.Deep.CutRange
namespace Go.Proofs.Ytbiibpjjjjedgaa
open Go.RowKit

theorem wrap_u64_nat (n : Nat) (h : n < 18446744073709551616) : IntKind.u64.wrap (n : Int) = (n : Int) := by
  have e : IntKind.u64.wrap (n : Int) = (n : Int) % 18446744073709551616 := rfl
  rw [e]; omega

/-- What is left behind a digit, as the machine reckons it. -/
theorem wrap_left (u a x r : Nat) (h : x + r = u * 4294967296 + a) (hr : r < 18446744073709551616) :
    IntKind.u64.wrap (IntKind.u64.wrap (IntKind.u64.wrap ((u : Int) * 4294967296) + (a : Int)) - IntKind.u64.wrap (x : Int)) = (r : Int) := by
  have e : ∀ n : Int, IntKind.u64.wrap n = n % 18446744073709551616 := fun n => rfl
  rw [e, e, e, e]
  omega
theorem left_eq (U Y Q : Nat) (h : Q = U / Y) : Q * Y + U % Y = U := by
  subst h; rw [Nat.mul_comm]; exact Nat.div_add_mod U Y
theorem digit_lt {y1 y0 u a : Nat} (D : Dv.Divisor y1 y0 u a) : (u * 4294967296 + a) / (y1 * 4294967296 + y0) < 4294967296 := by
  have := D.low; have := D.ult; have := D.alt
  rw [Nat.div_lt_iff_lt_mul (by omega)]
  omega

theorem fin_eq {u a1 y1 y0 a0 Y Q Q2 u2 u3 s : Nat} (hY : Y = y1 * 4294967296 + y0) (hQ : Q = (u * 4294967296 + a1) / (y1 * 4294967296 + y0)) (hQ2 : Q2 = (u2 * 4294967296 + a0) / (y1 * 4294967296 + y0))
    (hu2 : u2 = (u * 4294967296 + a1) % (y1 * 4294967296 + y0)) (hu3 : u3 = (u2 * 4294967296 + a0) % (y1 * 4294967296 + y0))
    (h : ((u * 4294967296 + a1) * 4294967296 + a0) / (y1 * 4294967296 + y0) = (u * 4294967296 + a1) / (y1 * 4294967296 + y0) * 4294967296 + ((u * 4294967296 + a1) % (y1 * 4294967296 + y0) * 4294967296 + a0) / (y1 * 4294967296 + y0) ∧
      ((u * 4294967296 + a1) * 4294967296 + a0) % (y1 * 4294967296 + y0) = ((u * 4294967296 + a1) % (y1 * 4294967296 + y0) * 4294967296 + a0) % (y1 * 4294967296 + y0)) :
    Ending.returned (.tuple #[.int .u64 ((Q : Int) * 4294967296 + Q2), .int .u64 ((u3 : Int) / 2 ^ s)]) = Ending.returned (.tuple #[.int .u64 (((u * 4294967296 + a1) * 4294967296 + a0) / Y : Nat), .int .u64 (((u * 4294967296 + a1) * 4294967296 + a0) % Y / 2 ^ s : Nat)]) := by
  obtain ⟨h1, h2⟩ := h
  rw [← hu2, ← hQ2, ← hQ] at h1
  rw [← hu2, ← hu3] at h2
  rw [hY, h1, h2]
  simp

set_option maxHeartbeats 1000000 in
theorem div64_small (lo y : Nat) (hlo : lo < 18446744073709551616) (hy0 : 0 < y) (hy : y ≤ 1000000000000) (w : World) :
    Calls Try.prog 47 #[.int .u64 0, .int .u64 lo, .int .u64 y] w fun e w' => e = .returned (.tuple #[.int .u64 (lo / y : Nat), .int .u64 (lo % y : Nat)]) ∧ Below w.heap.size w w' := by
  have h1 : ((y : Int) == 0) = false := by rw [beq_eq_false_iff_ne]; omega
  have h2 : ¬ (y : Int) ≤ 0 := by omega
  go_enter Try.func47, Try.ntmps47
  go_wp2
  go_quiet (fail)
  go_wp2
  go_ret2
  have e1 : IntKind.u64.wrap ((lo : Int) / (y : Int)) = ((lo / y : Nat) : Int) := by
    rw [← Int.natCast_ediv]; have := Nat.div_le_self lo y; exact wrap_u64_nat _ (by omega)
  exact ⟨by simp [e1], below_drewN (Below.refl _ _) _⟩

set_option maxRecDepth 100000 in
set_option maxHeartbeats 4000000 in
theorem div64_core (hi lo y s Y y1 y0 H X u Z a1 a0 : Nat) (hhi : hi < y) (hh0 : 0 < hi) (hlo : lo < 18446744073709551616) (hy : y ≤ 1000000000000) (hs0 : 24 ≤ s) (hs1 : s ≤ 63) (w : World)
    (hlz : Calls Try.prog 53 #[.int .u64 y] w fun e w' => e = .returned (.int .i64 (s : Int)) ∧ w' = w)
    (e2 : IntKind.u64.wrap ((y : Int) * 2 ^ s) = (Y : Int)) (e9 : (Y : Int) / 4294967296 = (y1 : Int)) (e10 : bits .and .u64 (Y : Int) 4294967295 = (y0 : Int))
    (eh : IntKind.u64.wrap ((hi : Int) * 2 ^ s) = (H : Int)) (el : (lo : Int) / 2 ^ (64 - s) = (X : Int)) (e11 : bits .or .u64 (H : Int) (X : Int) = (u : Int))
    (e12 : IntKind.u64.wrap ((lo : Int) * 2 ^ s) = (Z : Int)) (e13 : (Z : Int) / 4294967296 = (a1 : Int)) (e14 : bits .and .u64 (Z : Int) 4294967295 = (a0 : Int))
    (D1 : Dv.Divisor y1 y0 u a1) (ha0 : a0 < 4294967296) (hY : Y = y1 * 4294967296 + y0) :
    Calls Try.prog 47 #[.int .u64 hi, .int .u64 lo, .int .u64 y] w fun e w' => e = .returned (.tuple #[.int .u64 (((u * 4294967296 + a1) * 4294967296 + a0) / Y : Nat), .int .u64 (((u * 4294967296 + a1) * 4294967296 + a0) % Y / 2 ^ s : Nat)]) ∧ Below w.heap.size w w' := by
  have h1 : ((y : Int) == 0) = false := by rw [beq_eq_false_iff_ne]; omega
  have h2 : ¬ (y : Int) ≤ hi := by omega
  have h3 : ((hi : Int) == 0) = false := by rw [beq_eq_false_iff_ne]; omega
  have Hlz := Lib.hid hlz
  have HY := Lib.hid hY
  clear hlz hY
  go_enter Try.func47, Try.ntmps47
  go_wp2_with fail
  refine Hlz.out.mono ?_
  rintro e w' ⟨rfl, rfl⟩
  go_upto_region 15 with fail
  clear e2 e9 e10 eh el e11 e12 e13 e14 h1 h2 h3 Hlz
  obtain ⟨G, hq0⟩ := Dv.first_guess D1
  obtain ⟨d1, d2, d3, d4, d5⟩ := D1
  have hr0 : u % y1 < 4294967296 := by have := Nat.mod_lt u (show 0 < y1 by omega); omega
  obtain ⟨q, Hq⟩ : ∃ q, Hid (q = u / y1) := ⟨_, Lib.hid rfl⟩
  obtain ⟨r, Hr⟩ : ∃ q, Hid (q = u % y1) := ⟨_, Lib.hid rfl⟩
  rw [← Hq.out, ← Hr.out] at G
  rw [← Hq.out] at hq0
  rw [← Hr.out] at hr0
  obtain ⟨p, Hp⟩ : ∃ p, Hid (p = q * y1) := ⟨_, Lib.hid rfl⟩
  have hp : p + r = u := by rw [Hp.out]; exact G.sum
  have e15 : (u : Int) / (y1 : Int) = (q : Int) := by rw [Hq.out, Int.natCast_ediv]
  have e16 : IntKind.u64.wrap ((q : Int) * (y1 : Int)) = (p : Int) := by rw [← Int.natCast_mul, ← Hp.out]; exact wrap_u64_nat _ (by omega)
  have e17 : (u : Int) - p = (r : Int) := by omega
  have h0 : (y1 : Int) ≠ 0 := by omega
  have h0' : ¬ (y1 : Int) = 0 := by omega
  go_wp2_with fail
  clear e15 e16 e17 h0 h0' hlo hhi hh0 hy
  have G0 := Lib.hid G
  clear G hp Hp
  go_loop [15, 16] (fun qv rv => ∃ q r : Nat, qv = .int .u64 q ∧ rv = .int .u64 r ∧ Hid (Dv.Guess y1 y0 u a1 q r) ∧ q ≤ 4294967297 ∧ r < 4294967296) (fun _ rv => 4294967296 - (intOf rv).toNat)
  case atStart => exact ⟨q, r, rfl, rfl, G0, hq0, hr0⟩
  case round =>
    clear G0 hq0 hr0 Hq Hr
    obtain ⟨k, t, rfl, rfl, G, hq, hr⟩ := hrel
    have D : Hid (Dv.Divisor y1 y0 u a1) := Lib.hid ⟨d1, d2, d3, d4, d5⟩
    obtain ⟨z, Hz⟩ : ∃ z, Hid (z = k * y0) := ⟨_, Lib.hid rfl⟩
    have i1 : (2147483648 : Int) ≤ y1 := by omega
    have i2 : (y1 : Int) < 4294967296 := by omega
    have i3 : (y0 : Int) < 4294967296 := by omega
    have i4 : (a1 : Int) < 4294967296 := by omega
    have i6 : (a0 : Int) < 4294967296 := by omega
    have i7 : (k : Int) ≤ 4294967297 := by omega
    have i8 : (t : Int) < 4294967296 := by omega
    have Hd3 := Lib.hid d3
    clear d1 d2 d3 d4 d5 ha0 hq hr
    by_cases hbig : (4294967296 : Int) ≤ k
    · obtain ⟨g1, g2⟩ := Dv.too_great D.out G.out (Or.inl (by omega))
      have G2 := Lib.hid g2
      have g1' : (1 : Int) ≤ k := by omega
      clear g1 g2
      by_cases hbr : (4294967296 : Int) ≤ (t : Int) + y1
      · obtain ⟨Q, HQ⟩ : ∃ Q, Hid (Q = (u * 4294967296 + a1) / (y1 * 4294967296 + y0)) := ⟨_, Lib.hid rfl⟩
        have ek : (k : Int) - 1 = (Q : Int) := by have := Dv.right_guess D.out G2.out (Dv.big_rest D.out (by omega) (by omega)); rw [← HQ.out] at this; omega
        have hY0 : 0 < y1 * 4294967296 + y0 := by omega
        obtain ⟨u2, Hu2⟩ : ∃ n, Hid (n = (u * 4294967296 + a1) % (y1 * 4294967296 + y0)) := ⟨_, Lib.hid rfl⟩
        have hu2 : u2 < y1 * 4294967296 + y0 := by rw [Hu2.out]; exact Nat.mod_lt _ hY0
        have j1 : (Q : Int) < 4294967296 := by have := digit_lt D.out; rw [← HQ.out] at this; omega
        have e21 : IntKind.u64.wrap (IntKind.u64.wrap (IntKind.u64.wrap ((u : Int) * 4294967296) + (a1 : Int)) - IntKind.u64.wrap ((Q : Int) * (Y : Int))) = (u2 : Int) := by
          rw [← Int.natCast_mul]; exact wrap_left u a1 (Q * Y) u2 (by rw [Hu2.out, HY.out]; exact left_eq _ _ _ HQ.out) (by omega)
        have D2 : Hid (Dv.Divisor y1 y0 u2 a0) := Lib.hid ⟨by omega, by omega, by omega, by omega, hu2⟩
        obtain ⟨Gb, hqb⟩ := Dv.first_guess D2.out
        have hrb : u2 % y1 < 4294967296 := by have := Nat.mod_lt u2 (show 0 < y1 by omega); omega
        obtain ⟨qb, Hqb⟩ : ∃ q, Hid (q = u2 / y1) := ⟨_, Lib.hid rfl⟩
        obtain ⟨rb, Hrb⟩ : ∃ q, Hid (q = u2 % y1) := ⟨_, Lib.hid rfl⟩
        rw [← Hqb.out, ← Hrb.out] at Gb
        rw [← Hqb.out] at hqb
        rw [← Hrb.out] at hrb
        obtain ⟨pb, Hpb⟩ : ∃ p, Hid (p = qb * y1) := ⟨_, Lib.hid rfl⟩
        have hpb : pb + rb = u2 := by rw [Hpb.out]; exact Gb.sum
        have e22 : (u2 : Int) / (y1 : Int) = (qb : Int) := by rw [Hqb.out, Int.natCast_ediv]
        have e23 : IntKind.u64.wrap ((qb : Int) * (y1 : Int)) = (pb : Int) := by rw [← Int.natCast_mul, ← Hpb.out]; exact wrap_u64_nat _ (by omega)
        have e24 : (u2 : Int) - pb = (rb : Int) := by omega
        have h0 : (y1 : Int) ≠ 0 := by omega
        have h0' : ¬ (y1 : Int) = 0 := by omega
        have Gb0 := Lib.hid Gb
        have Hq3 := Lib.hid hqb
        have Hr3 := Lib.hid hrb
        have ipb : (pb : Int) ≤ u2 := by omega
        have iqb : (qb : Int) ≤ 4294967297 := by omega
        have irb : (rb : Int) < 4294967296 := by omega
        clear hpb Gb hqb hrb hY0 hu2
        go_wp2_with fail
        clear e21 e22 e23 e24 h0 h0' ipb
        go_loop [18, 16] (fun qv rv => ∃ q r : Nat, qv = .int .u64 q ∧ rv = .int .u64 r ∧ Hid (Dv.Guess y1 y0 u2 a0 q r) ∧ q ≤ 4294967297 ∧ r < 4294967296) (fun _ rv => 4294967296 - (intOf rv).toNat)
        case atStart => exact ⟨qb, rb, rfl, rfl, Gb0, Hq3.out, Hr3.out⟩
        case round =>
          clear Gb0 Hq3 Hr3
          obtain ⟨n, v, rfl, rfl, G3, hq, hr⟩ := hrel
          obtain ⟨x, Hx⟩ : ∃ z, Hid (z = n * y0) := ⟨_, Lib.hid rfl⟩
          have i17 : (n : Int) ≤ 4294967297 := by omega
          have i18 : (v : Int) < 4294967296 := by omega
          clear hq hr
          by_cases hbig2 : (4294967296 : Int) ≤ n
          · obtain ⟨g1, g2⟩ := Dv.too_great D2.out G3.out (Or.inl (by omega))
            have G4 := Lib.hid g2
            have g4' : (1 : Int) ≤ n := by omega
            clear g1 g2
            by_cases hbr2 : (4294967296 : Int) ≤ (v : Int) + y1
            · obtain ⟨Q2, HQ2⟩ : ∃ Q, Hid (Q = (u2 * 4294967296 + a0) / (y1 * 4294967296 + y0)) := ⟨_, Lib.hid rfl⟩
              have en : (n : Int) - 1 = (Q2 : Int) := by have := Dv.right_guess D2.out G4.out (Dv.big_rest D2.out (by omega) (by omega)); rw [← HQ2.out] at this; omega
              obtain ⟨u3, Hu3⟩ : ∃ n, Hid (n = (u2 * 4294967296 + a0) % (y1 * 4294967296 + y0)) := ⟨_, Lib.hid rfl⟩
              have hu3 : u3 < Y := by rw [Hu3.out, ← HY.out]; exact Nat.mod_lt _ (by rw [HY.out]; omega)
              have e28 : IntKind.u64.wrap (IntKind.u64.wrap (IntKind.u64.wrap ((u2 : Int) * 4294967296) + (a0 : Int)) - IntKind.u64.wrap ((Q2 : Int) * (Y : Int))) = (u3 : Int) := by
                rw [← Int.natCast_mul]; exact wrap_left u2 a0 (Q2 * Y) u3 (by rw [Hu3.out, HY.out]; exact left_eq _ _ _ HQ2.out) (by have := HY.out; omega)
              have j2 : (Q2 : Int) < 4294967296 := by have := digit_lt D2.out; rw [← HQ2.out] at this; omega
              have Hres := Lib.hid (Dv.two_digits (u * 4294967296 + a1) (y1 * 4294967296 + y0) a0 (by omega))
              clear hu3
              go_wp2
              go_ret2
              exact ⟨fin_eq HY.out HQ.out HQ2.out Hu2.out Hu3.out Hres.out, Below.refl _ _⟩
            · go_wp2
              go_round
              case rel => exact ⟨n - 1, v + y1, by go_num, by go_num, G4, by omega, by omega⟩
              case measure => simp [intOf]; omega
          · have ex : IntKind.u64.wrap ((n : Int) * (y0 : Int)) = (x : Int) := by rw [← Int.natCast_mul, ← Hx.out]; exact wrap_u64_nat _ (by rw [Hx.out]; exact Dv.prod_lt (by omega) Hd3.out)
            by_cases hgt2 : 4294967296 * (v : Int) + a0 < x
            · obtain ⟨g1, g2⟩ := Dv.too_great D2.out G3.out (Or.inr (by rw [← Hx.out]; omega))
              have G4 := Lib.hid g2
              have g4' : (1 : Int) ≤ n := by omega
              clear g1 g2
              by_cases hbr2 : (4294967296 : Int) ≤ (v : Int) + y1
              · obtain ⟨Q2, HQ2⟩ : ∃ Q, Hid (Q = (u2 * 4294967296 + a0) / (y1 * 4294967296 + y0)) := ⟨_, Lib.hid rfl⟩
                have en : (n : Int) - 1 = (Q2 : Int) := by have := Dv.right_guess D2.out G4.out (Dv.big_rest D2.out (by omega) (by omega)); rw [← HQ2.out] at this; omega
                obtain ⟨u3, Hu3⟩ : ∃ n, Hid (n = (u2 * 4294967296 + a0) % (y1 * 4294967296 + y0)) := ⟨_, Lib.hid rfl⟩
                have hu3 : u3 < Y := by rw [Hu3.out, ← HY.out]; exact Nat.mod_lt _ (by rw [HY.out]; omega)
                have e28 : IntKind.u64.wrap (IntKind.u64.wrap (IntKind.u64.wrap ((u2 : Int) * 4294967296) + (a0 : Int)) - IntKind.u64.wrap ((Q2 : Int) * (Y : Int))) = (u3 : Int) := by
                  rw [← Int.natCast_mul]; exact wrap_left u2 a0 (Q2 * Y) u3 (by rw [Hu3.out, HY.out]; exact left_eq _ _ _ HQ2.out) (by have := HY.out; omega)
                have j2 : (Q2 : Int) < 4294967296 := by have := digit_lt D2.out; rw [← HQ2.out] at this; omega
                have Hres := Lib.hid (Dv.two_digits (u * 4294967296 + a1) (y1 * 4294967296 + y0) a0 (by omega))
                clear hu3
                go_wp2
                go_ret2
                exact ⟨fin_eq HY.out HQ.out HQ2.out Hu2.out Hu3.out Hres.out, Below.refl _ _⟩
              · go_wp2
                go_round
                case rel => exact ⟨n - 1, v + y1, by go_num, by go_num, G4, by omega, by omega⟩
                case measure => simp [intOf]; omega
            · obtain ⟨Q2, rfl⟩ : ∃ Q, Q = n := ⟨_, rfl⟩
              have HQ2 : Hid (Q2 = (u2 * 4294967296 + a0) / (y1 * 4294967296 + y0)) := Lib.hid (Dv.right_guess D2.out G3.out (by rw [← Hx.out]; omega))
              obtain ⟨u3, Hu3⟩ : ∃ n, Hid (n = (u2 * 4294967296 + a0) % (y1 * 4294967296 + y0)) := ⟨_, Lib.hid rfl⟩
              have hu3 : u3 < Y := by rw [Hu3.out, ← HY.out]; exact Nat.mod_lt _ (by rw [HY.out]; omega)
              have e28 : IntKind.u64.wrap (IntKind.u64.wrap (IntKind.u64.wrap ((u2 : Int) * 4294967296) + (a0 : Int)) - IntKind.u64.wrap ((Q2 : Int) * (Y : Int))) = (u3 : Int) := by
                rw [← Int.natCast_mul]; exact wrap_left u2 a0 (Q2 * Y) u3 (by rw [Hu3.out, HY.out]; exact left_eq _ _ _ HQ2.out) (by have := HY.out; omega)
              have j2 : (Q2 : Int) < 4294967296 := by have := digit_lt D2.out; rw [← HQ2.out] at this; omega
              have Hres := Lib.hid (Dv.two_digits (u * 4294967296 + a1) (y1 * 4294967296 + y0) a0 (by omega))
              clear hu3
              go_wp2
              go_ret2
              exact ⟨fin_eq HY.out HQ.out HQ2.out Hu2.out Hu3.out Hres.out, Below.refl _ _⟩
      · go_wp2
        go_round
        case rel => exact ⟨k - 1, t + y1, by go_num, by go_num, G2, by omega, by omega⟩
        case measure => simp [intOf]; omega
    · have ez : IntKind.u64.wrap ((k : Int) * (y0 : Int)) = (z : Int) := by rw [← Int.natCast_mul, ← Hz.out]; exact wrap_u64_nat _ (by rw [Hz.out]; exact Dv.prod_lt (by omega) Hd3.out)
      by_cases hgt : 4294967296 * (t : Int) + a1 < z
      · obtain ⟨g1, g2⟩ := Dv.too_great D.out G.out (Or.inr (by rw [← Hz.out]; omega))
        have G2 := Lib.hid g2
        have g1' : (1 : Int) ≤ k := by omega
        clear g1 g2
        by_cases hbr : (4294967296 : Int) ≤ (t : Int) + y1
        · obtain ⟨Q, HQ⟩ : ∃ Q, Hid (Q = (u * 4294967296 + a1) / (y1 * 4294967296 + y0)) := ⟨_, Lib.hid rfl⟩
          have ek : (k : Int) - 1 = (Q : Int) := by have := Dv.right_guess D.out G2.out (Dv.big_rest D.out (by omega) (by omega)); rw [← HQ.out] at this; omega
          have hY0 : 0 < y1 * 4294967296 + y0 := by omega
          obtain ⟨u2, Hu2⟩ : ∃ n, Hid (n = (u * 4294967296 + a1) % (y1 * 4294967296 + y0)) := ⟨_, Lib.hid rfl⟩
          have hu2 : u2 < y1 * 4294967296 + y0 := by rw [Hu2.out]; exact Nat.mod_lt _ hY0
          have j1 : (Q : Int) < 4294967296 := by have := digit_lt D.out; rw [← HQ.out] at this; omega
          have e21 : IntKind.u64.wrap (IntKind.u64.wrap (IntKind.u64.wrap ((u : Int) * 4294967296) + (a1 : Int)) - IntKind.u64.wrap ((Q : Int) * (Y : Int))) = (u2 : Int) := by
            rw [← Int.natCast_mul]; exact wrap_left u a1 (Q * Y) u2 (by rw [Hu2.out, HY.out]; exact left_eq _ _ _ HQ.out) (by omega)
          have D2 : Hid (Dv.Divisor y1 y0 u2 a0) := Lib.hid ⟨by omega, by omega, by omega, by omega, hu2⟩
          obtain ⟨Gb, hqb⟩ := Dv.first_guess D2.out
          have hrb : u2 % y1 < 4294967296 := by have := Nat.mod_lt u2 (show 0 < y1 by omega); omega
          obtain ⟨qb, Hqb⟩ : ∃ q, Hid (q = u2 / y1) := ⟨_, Lib.hid rfl⟩
          obtain ⟨rb, Hrb⟩ : ∃ q, Hid (q = u2 % y1) := ⟨_, Lib.hid rfl⟩
          rw [← Hqb.out, ← Hrb.out] at Gb
          rw [← Hqb.out] at hqb
          rw [← Hrb.out] at hrb
          obtain ⟨pb, Hpb⟩ : ∃ p, Hid (p = qb * y1) := ⟨_, Lib.hid rfl⟩
          have hpb : pb + rb = u2 := by rw [Hpb.out]; exact Gb.sum
          have e22 : (u2 : Int) / (y1 : Int) = (qb : Int) := by rw [Hqb.out, Int.natCast_ediv]
          have e23 : IntKind.u64.wrap ((qb : Int) * (y1 : Int)) = (pb : Int) := by rw [← Int.natCast_mul, ← Hpb.out]; exact wrap_u64_nat _ (by omega)
          have e24 : (u2 : Int) - pb = (rb : Int) := by omega
          have h0 : (y1 : Int) ≠ 0 := by omega
          have h0' : ¬ (y1 : Int) = 0 := by omega
          have Gb0 := Lib.hid Gb
          have Hq3 := Lib.hid hqb
          have Hr3 := Lib.hid hrb
          have ipb : (pb : Int) ≤ u2 := by omega
          have iqb : (qb : Int) ≤ 4294967297 := by omega
          have irb : (rb : Int) < 4294967296 := by omega
          clear hpb Gb hqb hrb hY0 hu2
          go_wp2_with fail
          clear e21 e22 e23 e24 h0 h0' ipb
          go_loop [18, 16] (fun qv rv => ∃ q r : Nat, qv = .int .u64 q ∧ rv = .int .u64 r ∧ Hid (Dv.Guess y1 y0 u2 a0 q r) ∧ q ≤ 4294967297 ∧ r < 4294967296) (fun _ rv => 4294967296 - (intOf rv).toNat)
          case atStart => exact ⟨qb, rb, rfl, rfl, Gb0, Hq3.out, Hr3.out⟩
          case round =>
            clear Gb0 Hq3 Hr3
            obtain ⟨n, v, rfl, rfl, G3, hq, hr⟩ := hrel
            obtain ⟨x, Hx⟩ : ∃ z, Hid (z = n * y0) := ⟨_, Lib.hid rfl⟩
            have i17 : (n : Int) ≤ 4294967297 := by omega
            have i18 : (v : Int) < 4294967296 := by omega
            clear hq hr
            by_cases hbig2 : (4294967296 : Int) ≤ n
            · obtain ⟨g1, g2⟩ := Dv.too_great D2.out G3.out (Or.inl (by omega))
              have G4 := Lib.hid g2
              have g4' : (1 : Int) ≤ n := by omega
              clear g1 g2
              by_cases hbr2 : (4294967296 : Int) ≤ (v : Int) + y1
              · obtain ⟨Q2, HQ2⟩ : ∃ Q, Hid (Q = (u2 * 4294967296 + a0) / (y1 * 4294967296 + y0)) := ⟨_, Lib.hid rfl⟩
                have en : (n : Int) - 1 = (Q2 : Int) := by have := Dv.right_guess D2.out G4.out (Dv.big_rest D2.out (by omega) (by omega)); rw [← HQ2.out] at this; omega
                obtain ⟨u3, Hu3⟩ : ∃ n, Hid (n = (u2 * 4294967296 + a0) % (y1 * 4294967296 + y0)) := ⟨_, Lib.hid rfl⟩
                have hu3 : u3 < Y := by rw [Hu3.out, ← HY.out]; exact Nat.mod_lt _ (by rw [HY.out]; omega)
                have e28 : IntKind.u64.wrap (IntKind.u64.wrap (IntKind.u64.wrap ((u2 : Int) * 4294967296) + (a0 : Int)) - IntKind.u64.wrap ((Q2 : Int) * (Y : Int))) = (u3 : Int) := by
                  rw [← Int.natCast_mul]; exact wrap_left u2 a0 (Q2 * Y) u3 (by rw [Hu3.out, HY.out]; exact left_eq _ _ _ HQ2.out) (by have := HY.out; omega)
                have j2 : (Q2 : Int) < 4294967296 := by have := digit_lt D2.out; rw [← HQ2.out] at this; omega
                have Hres := Lib.hid (Dv.two_digits (u * 4294967296 + a1) (y1 * 4294967296 + y0) a0 (by omega))
                clear hu3
                go_wp2
                go_ret2
                exact ⟨fin_eq HY.out HQ.out HQ2.out Hu2.out Hu3.out Hres.out, Below.refl _ _⟩
              · go_wp2
                go_round
                case rel => exact ⟨n - 1, v + y1, by go_num, by go_num, G4, by omega, by omega⟩
                case measure => simp [intOf]; omega
            · have ex : IntKind.u64.wrap ((n : Int) * (y0 : Int)) = (x : Int) := by rw [← Int.natCast_mul, ← Hx.out]; exact wrap_u64_nat _ (by rw [Hx.out]; exact Dv.prod_lt (by omega) Hd3.out)
              by_cases hgt2 : 4294967296 * (v : Int) + a0 < x
              · obtain ⟨g1, g2⟩ := Dv.too_great D2.out G3.out (Or.inr (by rw [← Hx.out]; omega))
                have G4 := Lib.hid g2
                have g4' : (1 : Int) ≤ n := by omega
                clear g1 g2
                by_cases hbr2 : (4294967296 : Int) ≤ (v : Int) + y1
                · obtain ⟨Q2, HQ2⟩ : ∃ Q, Hid (Q = (u2 * 4294967296 + a0) / (y1 * 4294967296 + y0)) := ⟨_, Lib.hid rfl⟩
                  have en : (n : Int) - 1 = (Q2 : Int) := by have := Dv.right_guess D2.out G4.out (Dv.big_rest D2.out (by omega) (by omega)); rw [← HQ2.out] at this; omega
                  obtain ⟨u3, Hu3⟩ : ∃ n, Hid (n = (u2 * 4294967296 + a0) % (y1 * 4294967296 + y0)) := ⟨_, Lib.hid rfl⟩
                  have hu3 : u3 < Y := by rw [Hu3.out, ← HY.out]; exact Nat.mod_lt _ (by rw [HY.out]; omega)
                  have e28 : IntKind.u64.wrap (IntKind.u64.wrap (IntKind.u64.wrap ((u2 : Int) * 4294967296) + (a0 : Int)) - IntKind.u64.wrap ((Q2 : Int) * (Y : Int))) = (u3 : Int) := by
                    rw [← Int.natCast_mul]; exact wrap_left u2 a0 (Q2 * Y) u3 (by rw [Hu3.out, HY.out]; exact left_eq _ _ _ HQ2.out) (by have := HY.out; omega)
                  have j2 : (Q2 : Int) < 4294967296 := by have := digit_lt D2.out; rw [← HQ2.out] at this; omega
                  have Hres := Lib.hid (Dv.two_digits (u * 4294967296 + a1) (y1 * 4294967296 + y0) a0 (by omega))
                  clear hu3
                  go_wp2
                  go_ret2
                  exact ⟨fin_eq HY.out HQ.out HQ2.out Hu2.out Hu3.out Hres.out, Below.refl _ _⟩
                · go_wp2
                  go_round
                  case rel => exact ⟨n - 1, v + y1, by go_num, by go_num, G4, by omega, by omega⟩
                  case measure => simp [intOf]; omega
              · obtain ⟨Q2, rfl⟩ : ∃ Q, Q = n := ⟨_, rfl⟩
                have HQ2 : Hid (Q2 = (u2 * 4294967296 + a0) / (y1 * 4294967296 + y0)) := Lib.hid (Dv.right_guess D2.out G3.out (by rw [← Hx.out]; omega))
                obtain ⟨u3, Hu3⟩ : ∃ n, Hid (n = (u2 * 4294967296 + a0) % (y1 * 4294967296 + y0)) := ⟨_, Lib.hid rfl⟩
                have hu3 : u3 < Y := by rw [Hu3.out, ← HY.out]; exact Nat.mod_lt _ (by rw [HY.out]; omega)
                have e28 : IntKind.u64.wrap (IntKind.u64.wrap (IntKind.u64.wrap ((u2 : Int) * 4294967296) + (a0 : Int)) - IntKind.u64.wrap ((Q2 : Int) * (Y : Int))) = (u3 : Int) := by
                  rw [← Int.natCast_mul]; exact wrap_left u2 a0 (Q2 * Y) u3 (by rw [Hu3.out, HY.out]; exact left_eq _ _ _ HQ2.out) (by have := HY.out; omega)
                have j2 : (Q2 : Int) < 4294967296 := by have := digit_lt D2.out; rw [← HQ2.out] at this; omega
                have Hres := Lib.hid (Dv.two_digits (u * 4294967296 + a1) (y1 * 4294967296 + y0) a0 (by omega))
                clear hu3
                go_wp2
                go_ret2
                exact ⟨fin_eq HY.out HQ.out HQ2.out Hu2.out Hu3.out Hres.out, Below.refl _ _⟩
        · go_wp2
          go_round
          case rel => exact ⟨k - 1, t + y1, by go_num, by go_num, G2, by omega, by omega⟩
          case measure => simp [intOf]; omega
      · obtain ⟨Q, rfl⟩ : ∃ Q, Q = k := ⟨_, rfl⟩
        have HQ : Hid (Q = (u * 4294967296 + a1) / (y1 * 4294967296 + y0)) := Lib.hid (Dv.right_guess D.out G.out (by rw [← Hz.out]; omega))
        have hY0 : 0 < y1 * 4294967296 + y0 := by omega
        obtain ⟨u2, Hu2⟩ : ∃ n, Hid (n = (u * 4294967296 + a1) % (y1 * 4294967296 + y0)) := ⟨_, Lib.hid rfl⟩
        have hu2 : u2 < y1 * 4294967296 + y0 := by rw [Hu2.out]; exact Nat.mod_lt _ hY0
        have j1 : (Q : Int) < 4294967296 := by have := digit_lt D.out; rw [← HQ.out] at this; omega
        have e21 : IntKind.u64.wrap (IntKind.u64.wrap (IntKind.u64.wrap ((u : Int) * 4294967296) + (a1 : Int)) - IntKind.u64.wrap ((Q : Int) * (Y : Int))) = (u2 : Int) := by
          rw [← Int.natCast_mul]; exact wrap_left u a1 (Q * Y) u2 (by rw [Hu2.out, HY.out]; exact left_eq _ _ _ HQ.out) (by omega)
        have D2 : Hid (Dv.Divisor y1 y0 u2 a0) := Lib.hid ⟨by omega, by omega, by omega, by omega, hu2⟩
        obtain ⟨Gb, hqb⟩ := Dv.first_guess D2.out
        have hrb : u2 % y1 < 4294967296 := by have := Nat.mod_lt u2 (show 0 < y1 by omega); omega
        obtain ⟨qb, Hqb⟩ : ∃ q, Hid (q = u2 / y1) := ⟨_, Lib.hid rfl⟩
        obtain ⟨rb, Hrb⟩ : ∃ q, Hid (q = u2 % y1) := ⟨_, Lib.hid rfl⟩
        rw [← Hqb.out, ← Hrb.out] at Gb
        rw [← Hqb.out] at hqb
        rw [← Hrb.out] at hrb
        obtain ⟨pb, Hpb⟩ : ∃ p, Hid (p = qb * y1) := ⟨_, Lib.hid rfl⟩
        have hpb : pb + rb = u2 := by rw [Hpb.out]; exact Gb.sum
        have e22 : (u2 : Int) / (y1 : Int) = (qb : Int) := by rw [Hqb.out, Int.natCast_ediv]
        have e23 : IntKind.u64.wrap ((qb : Int) * (y1 : Int)) = (pb : Int) := by rw [← Int.natCast_mul, ← Hpb.out]; exact wrap_u64_nat _ (by omega)
        have e24 : (u2 : Int) - pb = (rb : Int) := by omega
        have h0 : (y1 : Int) ≠ 0 := by omega
        have h0' : ¬ (y1 : Int) = 0 := by omega
        have Gb0 := Lib.hid Gb
        have Hq3 := Lib.hid hqb
        have Hr3 := Lib.hid hrb
        have ipb : (pb : Int) ≤ u2 := by omega
        have iqb : (qb : Int) ≤ 4294967297 := by omega
        have irb : (rb : Int) < 4294967296 := by omega
        clear hpb Gb hqb hrb hY0 hu2
        go_wp2_with fail
        clear e21 e22 e23 e24 h0 h0' ipb
        go_loop [18, 16] (fun qv rv => ∃ q r : Nat, qv = .int .u64 q ∧ rv = .int .u64 r ∧ Hid (Dv.Guess y1 y0 u2 a0 q r) ∧ q ≤ 4294967297 ∧ r < 4294967296) (fun _ rv => 4294967296 - (intOf rv).toNat)
        case atStart => exact ⟨qb, rb, rfl, rfl, Gb0, Hq3.out, Hr3.out⟩
        case round =>
          clear Gb0 Hq3 Hr3
          obtain ⟨n, v, rfl, rfl, G3, hq, hr⟩ := hrel
          obtain ⟨x, Hx⟩ : ∃ z, Hid (z = n * y0) := ⟨_, Lib.hid rfl⟩
          have i17 : (n : Int) ≤ 4294967297 := by omega
          have i18 : (v : Int) < 4294967296 := by omega
          clear hq hr
          by_cases hbig2 : (4294967296 : Int) ≤ n
          · obtain ⟨g1, g2⟩ := Dv.too_great D2.out G3.out (Or.inl (by omega))
            have G4 := Lib.hid g2
            have g4' : (1 : Int) ≤ n := by omega
            clear g1 g2
            by_cases hbr2 : (4294967296 : Int) ≤ (v : Int) + y1
            · obtain ⟨Q2, HQ2⟩ : ∃ Q, Hid (Q = (u2 * 4294967296 + a0) / (y1 * 4294967296 + y0)) := ⟨_, Lib.hid rfl⟩
              have en : (n : Int) - 1 = (Q2 : Int) := by have := Dv.right_guess D2.out G4.out (Dv.big_rest D2.out (by omega) (by omega)); rw [← HQ2.out] at this; omega
              obtain ⟨u3, Hu3⟩ : ∃ n, Hid (n = (u2 * 4294967296 + a0) % (y1 * 4294967296 + y0)) := ⟨_, Lib.hid rfl⟩
              have hu3 : u3 < Y := by rw [Hu3.out, ← HY.out]; exact Nat.mod_lt _ (by rw [HY.out]; omega)
              have e28 : IntKind.u64.wrap (IntKind.u64.wrap (IntKind.u64.wrap ((u2 : Int) * 4294967296) + (a0 : Int)) - IntKind.u64.wrap ((Q2 : Int) * (Y : Int))) = (u3 : Int) := by
                rw [← Int.natCast_mul]; exact wrap_left u2 a0 (Q2 * Y) u3 (by rw [Hu3.out, HY.out]; exact left_eq _ _ _ HQ2.out) (by have := HY.out; omega)
              have j2 : (Q2 : Int) < 4294967296 := by have := digit_lt D2.out; rw [← HQ2.out] at this; omega
              have Hres := Lib.hid (Dv.two_digits (u * 4294967296 + a1) (y1 * 4294967296 + y0) a0 (by omega))
              clear hu3
              go_wp2
              go_ret2
              exact ⟨fin_eq HY.out HQ.out HQ2.out Hu2.out Hu3.out Hres.out, Below.refl _ _⟩
            · go_wp2
              go_round
              case rel => exact ⟨n - 1, v + y1, by go_num, by go_num, G4, by omega, by omega⟩
              case measure => simp [intOf]; omega
          · have ex : IntKind.u64.wrap ((n : Int) * (y0 : Int)) = (x : Int) := by rw [← Int.natCast_mul, ← Hx.out]; exact wrap_u64_nat _ (by rw [Hx.out]; exact Dv.prod_lt (by omega) Hd3.out)
            by_cases hgt2 : 4294967296 * (v : Int) + a0 < x
            · obtain ⟨g1, g2⟩ := Dv.too_great D2.out G3.out (Or.inr (by rw [← Hx.out]; omega))
              have G4 := Lib.hid g2
              have g4' : (1 : Int) ≤ n := by omega
              clear g1 g2
              by_cases hbr2 : (4294967296 : Int) ≤ (v : Int) + y1
              · obtain ⟨Q2, HQ2⟩ : ∃ Q, Hid (Q = (u2 * 4294967296 + a0) / (y1 * 4294967296 + y0)) := ⟨_, Lib.hid rfl⟩
                have en : (n : Int) - 1 = (Q2 : Int) := by have := Dv.right_guess D2.out G4.out (Dv.big_rest D2.out (by omega) (by omega)); rw [← HQ2.out] at this; omega
                obtain ⟨u3, Hu3⟩ : ∃ n, Hid (n = (u2 * 4294967296 + a0) % (y1 * 4294967296 + y0)) := ⟨_, Lib.hid rfl⟩
                have hu3 : u3 < Y := by rw [Hu3.out, ← HY.out]; exact Nat.mod_lt _ (by rw [HY.out]; omega)
                have e28 : IntKind.u64.wrap (IntKind.u64.wrap (IntKind.u64.wrap ((u2 : Int) * 4294967296) + (a0 : Int)) - IntKind.u64.wrap ((Q2 : Int) * (Y : Int))) = (u3 : Int) := by
                  rw [← Int.natCast_mul]; exact wrap_left u2 a0 (Q2 * Y) u3 (by rw [Hu3.out, HY.out]; exact left_eq _ _ _ HQ2.out) (by have := HY.out; omega)
                have j2 : (Q2 : Int) < 4294967296 := by have := digit_lt D2.out; rw [← HQ2.out] at this; omega
                have Hres := Lib.hid (Dv.two_digits (u * 4294967296 + a1) (y1 * 4294967296 + y0) a0 (by omega))
                clear hu3
                go_wp2
                go_ret2
                exact ⟨fin_eq HY.out HQ.out HQ2.out Hu2.out Hu3.out Hres.out, Below.refl _ _⟩
              · go_wp2
                go_round
                case rel => exact ⟨n - 1, v + y1, by go_num, by go_num, G4, by omega, by omega⟩
                case measure => simp [intOf]; omega
            · obtain ⟨Q2, rfl⟩ : ∃ Q, Q = n := ⟨_, rfl⟩
              have HQ2 : Hid (Q2 = (u2 * 4294967296 + a0) / (y1 * 4294967296 + y0)) := Lib.hid (Dv.right_guess D2.out G3.out (by rw [← Hx.out]; omega))
              obtain ⟨u3, Hu3⟩ : ∃ n, Hid (n = (u2 * 4294967296 + a0) % (y1 * 4294967296 + y0)) := ⟨_, Lib.hid rfl⟩
              have hu3 : u3 < Y := by rw [Hu3.out, ← HY.out]; exact Nat.mod_lt _ (by rw [HY.out]; omega)
              have e28 : IntKind.u64.wrap (IntKind.u64.wrap (IntKind.u64.wrap ((u2 : Int) * 4294967296) + (a0 : Int)) - IntKind.u64.wrap ((Q2 : Int) * (Y : Int))) = (u3 : Int) := by
                rw [← Int.natCast_mul]; exact wrap_left u2 a0 (Q2 * Y) u3 (by rw [Hu3.out, HY.out]; exact left_eq _ _ _ HQ2.out) (by have := HY.out; omega)
              have j2 : (Q2 : Int) < 4294967296 := by have := digit_lt D2.out; rw [← HQ2.out] at this; omega
              have Hres := Lib.hid (Dv.two_digits (u * 4294967296 + a1) (y1 * 4294967296 + y0) a0 (by omega))
              clear hu3
              go_wp2
              go_ret2
              exact ⟨fin_eq HY.out HQ.out HQ2.out Hu2.out Hu3.out Hres.out, Below.refl _ _⟩

end Go.Proofs.Ytbiibpjjjjedgaa
