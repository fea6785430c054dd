/- Few of substitutions, catalog and state. -/
import Derived.Test.YtapjnbofhdljfaaConFew
namespace Go.Proofs.Ytapjnbofhdljfaa
open Go.RowKit
open Cat

set_option maxRecDepth 100000 in
set_option maxHeartbeats 8000000 in
theorem few27_any (co : Option Addr) (c : List Knd) (cc : Nat) (bo : Option Addr) (subs : List Sb) (bc : Nat) (so : Option Addr) (s : List Prt) (sc : Nat) (hlc : c.length ≤ 9223372036854775807) (hlb : subs.length ≤ 9223372036854775807) (hls : s.length ≤ 9223372036854775807)
    (W : World) (hc : IsL 3 ElKnd W co c) (hb : IsL 5 ElSub W bo subs) (hi : IsL 14 ElPrt W so s) :
    Calls Try.prog 10 #[.agg #[.slice co c.length cc], .slice bo subs.length bc, .agg #[.slice so s.length sc]] W (YesNo (subs.length ≤ 20 ∧ s.length ≤ 24 ∧ ∀ p ∈ s, p.props.length ≤ 65) W) := by
  have H8 := Lib.hid (fun (w : World) (hw : Below W.heap.size W w) => few08_any co c cc hlc w (hc.below stKnd hw))
  have H10 := Lib.hid (fun (w : World) (hw : Below W.heap.size W w) => few10_any so s sc hls w (hi.below stPrt hw))
  have HSb := Lib.hid hb
  clear hc hb hi
  obtain ⟨cn, Hcn⟩ : ∃ n, Hid (n = c.length) := ⟨_, Lib.hid rfl⟩
  obtain ⟨bn, Hbn⟩ : ∃ n, Hid (n = subs.length) := ⟨_, Lib.hid rfl⟩
  obtain ⟨sn, Hsn⟩ : ∃ n, Hid (n = s.length) := ⟨_, Lib.hid rfl⟩
  rw [← Hsn.out] at H10 ⊢
  rw [← Hcn.out] at H8 ⊢
  rw [← Hbn.out] at hlb ⊢
  obtain ⟨N, HN⟩ : ∃ N, Hid (N = W.heap.size) := ⟨_, Lib.hid rfl⟩
  obtain ⟨V, HV⟩ : ∃ w, Hid (w = (W.alloc (.cells #[.slice co cn cc] 24)).alloc (.cells #[.slice so sn sc] 28)) := ⟨_, Lib.hid rfl⟩
  have HB : Hid (Below W.heap.size W V) := Lib.hid (by rw [HV.out]; exact below_alloc ((Below.refl _ _).alloc (Nat.le_refl _) _) _)
  have v0 : V.cell? ⟨N, 0, none⟩ = some (.slice co cn cc) := by rw [HV.out, HN.out]; go_simp
  have v1 : V.cell? ⟨N + 1, 0, none⟩ = some (.slice so sn sc) := by rw [HV.out, HN.out]; go_simp
  have lN := lt_of_cell v1
  go_enter Try.func10, Try.ntmps10
  go_wp2_with (first
    | (with_reducible show wpList _ _ _ (Oper.mk _ (Op.move (.tmp 1)) _ _ _ _ :: _) _ _; refine Hid.out ?_)
    | (with_reducible show wpList _ _ _ (Oper.mk _ (Op.call _) _ _ _ _ :: _) _ _; refine Hid.out ?_))
  refine Lib.hid ?_
  rw [← HN.out, ← HV.out]
  by_cases h20 : 20 < bn
  · have d1 : decide ((20 : Int) < (bn : Int)) = true := decide_eq_true (by omega)
    go_wp2_with fail
    go_ret
    exact YesNo.no (HB.out)
  have d1 : decide ((20 : Int) < (bn : Int)) = false := decide_eq_false (by omega)
  go_wp2_with fail
  refine (H8.out V HB.out).mono ?_
  rintro e w1 ⟨b1, rfl, hb⟩
  have HB1 := Lib.hid hb
  clear hb
  cases b1 with
  | false =>
    go_wp2_with fail
    go_ret
    exact YesNo.no (below_step HB.out HB1.out)
  | true =>
  have v2 := (cellB HB1.out lN).trans v1
  go_wp2_with fail
  refine (H10.out w1 (below_step HB.out HB1.out)).mono ?_
  rintro e w2 ⟨b2, rfl, hf, hb⟩
  have HF := Lib.hid hf
  have HB2 := Lib.hid (below_step HB.out (below_step HB1.out hb))
  clear hb hf v0 v1 v2 lN
  cases b2 with
  | false =>
    go_wp2_with fail
    go_ret
    exact YesNo.no (HB2.out)
  | true =>
  go_wp2_with fail
  go_loopw [7] (fun i wr => ∃ k : Nat, k ≤ bn ∧ i = .int .i64 k ∧ Hid (Below w2.heap.size w2 wr)) (fun i _ => bn - (intOf i).toNat)
  case atStart => exact ⟨0, Nat.zero_le _, by go_num, Lib.hid (Below.refl _ _)⟩
  case round =>
    obtain ⟨k, hk, rfl, HR⟩ := hrel
    have HBr := Lib.hid (below_step HB2.out HR.out)
    by_cases hkn : k < bn
    · have hd : decide ((k : Int) < bn) = true := decide_eq_true (by omega)
      have hb0 : (0 : Int) ≤ k := by omega
      have hb1 : (k : Int) < bn := by omega
      have hkl : k < subs.length := by rw [← Hbn.out]; exact hkn
      obtain ⟨bk, off, cs, rfl, hbk, hrg, hel⟩ := HSb.out.at hkl
      obtain ⟨x, Hx⟩ : ∃ m, Hid (m = subs[k]) := ⟨_, Lib.hid rfl⟩
      rw [← Hx.out] at hel
      unfold ElSub at hel
      subst hel
      obtain ⟨xk, xs, xo, xt, xto⟩ := x
      have hrg := rangeB hrg hbk HBr.out
      have c0 := hrg 0 _ rfl
      have c1 := hrg 1 _ rfl
      have c2 := hrg 2 _ rfl
      have c3 := hrg 3 _ rfl
      have c4 := hrg 4 _ rfl
      rw [Nat.add_zero] at c0
      dsimp only at c0 c1 c2 c3 c4
      obtain ⟨U, HU⟩ : ∃ w, Hid (w = wr.alloc (.cells #[.string xk, .string xs, .string xo, .string xt, .int .i64 xto] 51)) := ⟨_, Lib.hid rfl⟩
      have HBU : Hid (Below wr.heap.size wr U) := Lib.hid (by rw [HU.out]; exact (Below.refl _ _).alloc (Nat.le_refl _) _)
      obtain ⟨p1, e1⟩ : ∃ b, decide ((300 : Int) < (xk.size : Int)) = b := ⟨_, rfl⟩
      obtain ⟨p2, e2⟩ : ∃ b, decide ((300 : Int) < (xs.size : Int)) = b := ⟨_, rfl⟩
      obtain ⟨p3, e3⟩ : ∃ b, decide ((300 : Int) < (xo.size : Int)) = b := ⟨_, rfl⟩
      obtain ⟨p4, e4⟩ : ∃ b, decide ((300 : Int) < (xt.size : Int)) = b := ⟨_, rfl⟩
      clear hrg
      cases p1 with
      | true =>
        go_wp2_with fail
        go_ret
        exact YesNo.no (by rw [← HU.out]; exact below_step HBr.out HBU.out)
      | false =>
      cases p2 with
      | true =>
        go_wp2_with fail
        go_ret
        exact YesNo.no (by rw [← HU.out]; exact below_step HBr.out HBU.out)
      | false =>
      cases p3 with
      | true =>
        go_wp2_with fail
        go_ret
        exact YesNo.no (by rw [← HU.out]; exact below_step HBr.out HBU.out)
      | false =>
      cases p4 with
      | true =>
        go_wp2_with fail
        go_ret
        exact YesNo.no (by rw [← HU.out]; exact below_step HBr.out HBU.out)
      | false =>
        go_wp2_with fail
        go_round
        case rel => exact ⟨k + 1, by omega, by go_num, Lib.hid (by rw [← HU.out]; exact below_step HR.out HBU.out)⟩
        case measure => simp [intOf]; omega
    · obtain rfl : k = bn := by omega
      have hd : decide ((k : Int) < k) = false := decide_eq_false (by omega)
      have HA : Hid (k ≤ 20 ∧ sn ≤ 24 ∧ ∀ p ∈ s, p.props.length ≤ 65) := Lib.hid ⟨by omega, HF.out (by simp)⟩
      go_wp2_with fail
      go_ret
      exact YesNo.yes HA.out HBr.out

set_option maxRecDepth 100000 in
set_option maxHeartbeats 4000000 in
theorem short_any (ao : Option Addr) (l : List Cn) (cap : Nat) (hl : l.length ≤ 9223372036854775807) (W : World) (hi : IsL 3 ElCon W ao l) :
    Calls Try.prog 11 #[.slice ao l.length cap] W (YesNo (l.length ≤ 40) W) := by
  have HI := Lib.hid hi
  clear hi
  obtain ⟨n, Hn⟩ : ∃ n, Hid (n = l.length) := ⟨_, Lib.hid rfl⟩
  rw [← Hn.out]
  rw [← Hn.out] at hl
  go_enter Try.func11, Try.ntmps11
  go_wp2_with fail
  go_loopw [3] (fun i wr => ∃ k : Nat, k ≤ n ∧ k ≤ 41 ∧ i = .int .i64 k ∧ wr = W) (fun i _ => n - (intOf i).toNat)
  case atStart => exact ⟨0, Nat.zero_le _, by omega, by go_num, rfl⟩
  case round =>
    obtain ⟨k, hk, hk41, rfl, hw⟩ := hrel
    subst hw
    by_cases hkn : k < n
    · have hd : decide ((k : Int) < n) = true := decide_eq_true (by omega)
      by_cases h40 : k ≤ 40
      · have hd4 : decide ((k : Int) ≤ 40) = true := decide_eq_true (by omega)
        have hb0 : (0 : Int) ≤ k := by omega
        have hb1 : (k : Int) < n := by omega
        have hkl : k < l.length := by rw [← Hn.out]; exact hkn
        obtain ⟨bk, off, cs, rfl, hbk, hrg, hel⟩ := HI.out.at hkl
        obtain ⟨x, Hx⟩ : ∃ m, Hid (m = l[k]) := ⟨_, Lib.hid rfl⟩
        rw [← Hx.out] at hel
        unfold ElCon at hel
        subst hel
        obtain ⟨xp, xr, xto⟩ := x
        have c0 := hrg 0 _ rfl
        have c1 := hrg 1 _ rfl
        rw [Nat.add_zero] at c0
        dsimp only at c0 c1
        obtain ⟨p1, e1⟩ : ∃ b, decide ((300 : Int) < (xp.size : Int)) = b := ⟨_, rfl⟩
        obtain ⟨p2, e2⟩ : ∃ b, decide ((300 : Int) < (xr.size : Int)) = b := ⟨_, rfl⟩
        clear hrg
        cases p1 with
        | true =>
          go_wp2_with fail
          go_ret
          exact YesNo.no (Below.refl _ _)
        | false =>
        cases p2 with
        | true =>
          go_wp2_with fail
          go_ret
          exact YesNo.no (Below.refl _ _)
        | false =>
          go_wp2_with fail
          go_round
          case rel => exact ⟨k + 1, by omega, by omega, by go_num, trivial⟩
          case measure => simp [intOf]; omega
      · have hd4 : decide ((k : Int) ≤ 40) = false := decide_eq_false (by omega)
        have hd5 : decide ((n : Int) ≤ 40) = false := decide_eq_false (by omega)
        go_wp2_with fail
        go_ret
        exact YesNo.no (Below.refl _ _)
    · obtain rfl : k = n := by omega
      have hd : decide ((k : Int) < k) = false := decide_eq_false (by omega)
      by_cases h40 : k ≤ 40
      · have hd4 : decide ((k : Int) ≤ 40) = true := decide_eq_true (by omega)
        go_wp2_with fail
        go_ret
        exact YesNo.yes h40 (Below.refl _ _)
      · have hd4 : decide ((k : Int) ≤ 40) = false := decide_eq_false (by omega)
        go_wp2_with fail
        go_ret
        exact YesNo.no (Below.refl _ _)
end Go.Proofs.Ytapjnbofhdljfaa
