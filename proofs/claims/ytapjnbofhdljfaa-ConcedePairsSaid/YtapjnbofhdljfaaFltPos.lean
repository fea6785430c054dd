/- The index of a part by halving: what is found is there. -/
import Derived.Test.YtapjnbofhdljfaaConNormal
import Derived.Test.YtapjnbofhdljfaaConFind
namespace Go.Proofs.Ytapjnbofhdljfaa
open Go.RowKit
open Cat

theorem cmp_zero : ∀ {a b : List UInt8}, Lib.compareBytes a b = 0 → a = b
  | [], [], _ => rfl
  | [], _ :: _, h => by simp [Lib.compareBytes] at h
  | _ :: _, [], h => by simp [Lib.compareBytes] at h
  | a :: l, b :: m, h => by
    unfold Lib.compareBytes at h
    by_cases h1 : a < b
    · rw [if_pos h1] at h; cases h
    · rw [if_neg h1] at h
      by_cases h2 : b < a
      · rw [if_pos h2] at h; cases h
      · rw [if_neg h2] at h
        have e : a = b := UInt8.le_antisymm (UInt8.not_lt.1 h2) (UInt8.not_lt.1 h1)
        rw [e, cmp_zero h]
/-- What the comparison of two names says. -/
def cmpN (a b : ByteArray) : Int := Lib.compareBytes a.data.toList b.data.toList
theorem cmpN_zero {a b : ByteArray} (h : cmpN a b = 0) : a = b := by
  apply ByteArray.ext
  apply Array.ext'
  exact cmp_zero h

set_option maxRecDepth 100000 in
set_option maxHeartbeats 4000000 in
theorem pos1_any (q : Prt) (pv : Value) (x : ByteArray) (W : World) (hpv : ∃ po n pc, pv = .slice po n pc) :
    Calls Try.prog 55 #[.agg (ptC q pv).toArray, .string x] W fun e w' => e = .returned (.int .i64 (cmpN q.name x)) ∧ Below W.heap.size W w' := by
  obtain ⟨po, n, pc, rfl⟩ := hpv
  obtain ⟨qn, qk, qi, qs, z4, z5, b6, ps, l0, l1, l2, l3, l4, l5⟩ := q
  unfold ptC
  dsimp only
  obtain ⟨v, Hv⟩ : ∃ v, Hid (v = cmpN qn x) := ⟨_, Lib.hid rfl⟩
  rw [← Hv.out]
  have HC := Lib.hid (fun w => Try.strings_Compare qn x w)
  have hC2 : Lib.compareBytes qn.data.toList x.data.toList = v := Hv.out.symm
  rw [hC2] at HC
  clear hC2
  have HB : Hid (∀ o, Below W.heap.size W (W.alloc o)) := Lib.hid (fun o => (Below.refl _ _).alloc (Nat.le_refl _) _)
  go_enter Try.func55, Try.ntmps55
  go_wp2_with fail
  refine (HC.out _).mono ?_
  rintro e w' ⟨rfl, rfl⟩
  go_wp2_with fail
  go_ret
  exact ⟨rfl, HB.out _⟩

set_option maxRecDepth 100000 in
set_option maxHeartbeats 4000000 in
theorem bsf_any (so : Option Addr) (s : List Prt) (sc : Nat) (x : ByteArray) (hl : s.length ≤ 1000000) (W : World) (hi : IsL 14 ElPrt W so s) :
    Calls Try.prog 54 #[.slice so s.length sc, .string x, .func (.func 55) #[] #[]] W fun e w' => ∃ (k : Nat) (b : Bool), e = .returned (.tuple #[.int .i64 k, .bool b]) ∧ (b = true → ∃ p, s[k]? = some p ∧ p.name = x) ∧ Below W.heap.size W w' := by
  have HI := Lib.hid hi
  have HSz := Lib.hid part_size
  clear hi
  obtain ⟨n, Hn⟩ : ∃ n, Hid (n = s.length) := ⟨_, Lib.hid rfl⟩
  rw [← Hn.out]
  rw [← Hn.out] at hl
  have HC := Lib.hid (fun (q : Prt) (pv : Value) (w : World) => pos1_any q pv x w)
  go_enter Try.func54, Try.ntmps54
  go_wp2_with fail
  go_loopw [9, 10] (fun lo hi wr => ∃ a b : Nat, a ≤ b ∧ b ≤ n ∧ lo = .int .i64 a ∧ hi = .int .i64 b ∧ Hid (Below W.heap.size W wr)) (fun lo hi _ => (intOf hi).toNat - (intOf lo).toNat)
  case atStart => exact ⟨0, n, Nat.zero_le _, Nat.le_refl _, by go_num, rfl, Lib.hid (Below.refl _ _)⟩
  case round =>
    obtain ⟨a, b, hab, hbn, rfl, rfl, HR⟩ := hrel
    by_cases hkn : a < b
    · have hd : decide ((a : Int) < b) = true := decide_eq_true (by omega)
      obtain ⟨m, hm⟩ : ∃ m : Nat, ((a : Int) + (b : Int)) / 2 = (m : Int) := ⟨(a + b) / 2, by omega⟩
      have hmn : m < n := by omega
      have ham : a ≤ m := by omega
      have hmb : m < b := by omega
      have hb0 : (0 : Int) ≤ m := by omega
      have hb1 : (m : Int) < n := by omega
      have hkl : m < s.length := by rw [← Hn.out]; exact hmn
      obtain ⟨bk, off, cs, rfl, hbk, hrg, po, pc, rfl, hpr, hp9⟩ := HI.out.at hkl
      have HRg := Lib.hid (rangeB hrg hbk HR.out)
      have HC1 := Lib.hid (HC.out s[m] (.slice po (s[m].props).length pc) wr ⟨_, _, _, rfl⟩)
      obtain ⟨z, Hz⟩ : ∃ z, Hid (z = cmpN (s[m].name) x) := ⟨_, Lib.hid rfl⟩
      rw [← Hz.out] at HC1
      clear hrg hpr hp9 hbk
      go_wp2_with (first
        | (with_reducible show wpList _ _ _ (Oper.mk _ (Op.load 45 _) _ _ _ _ :: _) _ _; refine wpList_load_mid rfl _ _ rfl bk (off + m * 14) rfl _ _ HRg.out Try.underlying45 rfl (HSz.out.trans rfl) ?_))
      refine HC1.out.mono ?_
      rintro e w' ⟨rfl, hw⟩
      have HW := Lib.hid (below_step HR.out hw)
      clear hw hm
      by_cases hz : z < 0
      · have e1 : decide (z < 0) = true := decide_eq_true hz
        clear hz
        go_wp2_with fail
        go_round
        case rel => exact ⟨m + 1, b, by omega, by omega, by go_num, rfl, HW⟩
        case measure => simp [intOf]; omega
      · have e1 : decide (z < 0) = false := decide_eq_false hz
        clear hz
        go_wp2_with fail
        go_round
        case rel => exact ⟨a, m, by omega, by omega, by go_num, rfl, HW⟩
        case measure => simp [intOf]; omega
    · obtain rfl : a = b := by omega
      have hd : decide ((a : Int) < a) = false := decide_eq_false (by omega)
      by_cases han : a < n
      · have hd2 : decide ((a : Int) < n) = true := decide_eq_true (by omega)
        have hb0 : (0 : Int) ≤ a := by omega
        have hb1 : (a : Int) < n := by omega
        have hkl : a < s.length := by rw [← Hn.out]; exact han
        obtain ⟨bk, off, cs, rfl, hbk, hrg, po, pc, rfl, hpr, hp9⟩ := HI.out.at hkl
        have hrg := rangeB hrg hbk HR.out
        have HC1 := Lib.hid (HC.out s[a] (.slice po (s[a].props).length pc) wr ⟨_, _, _, rfl⟩)
        obtain ⟨z, Hz⟩ : ∃ z, Hid (z = cmpN (s[a].name) x) := ⟨_, Lib.hid rfl⟩
        rw [← Hz.out] at HC1
        obtain ⟨q, Hq⟩ : ∃ q, Hid (q = s[a]) := ⟨_, Lib.hid rfl⟩
        rw [← Hq.out] at hrg HC1
        obtain ⟨pl, Hpl⟩ : ∃ x, Hid (x = q.props.length) := ⟨_, Lib.hid rfl⟩
        rw [← Hpl.out] at hrg HC1
        have c0 := hrg 0 _ rfl
        have c1 := hrg 1 _ rfl
        have c2 := hrg 2 _ rfl
        have c3 := hrg 3 _ rfl
        have c4 := hrg 4 _ rfl
        have c5 := hrg 5 _ rfl
        have c6 := hrg 6 _ rfl
        have c7 := hrg 7 _ rfl
        have c8 := hrg 8 _ rfl
        have c9 := hrg 9 _ rfl
        have c10 := hrg 10 _ rfl
        have c11 := hrg 11 _ rfl
        have c12 := hrg 12 _ rfl
        have c13 := hrg 13 _ rfl
        rw [Nat.add_zero] at c0
        clear hrg hpr hp9 hbk
        unfold ptC at HC1
        go_wp2_with fail
        refine HC1.out.mono ?_
        rintro e w' ⟨rfl, hw⟩
        have HW := Lib.hid (below_step HR.out hw)
        clear hw
        have HT : Hid ((z == 0) = true → ∃ p, s[a]? = some p ∧ p.name = x) := Lib.hid (fun h => ⟨s[a], List.getElem?_eq_getElem hkl, cmpN_zero (Hz.out.symm.trans (by simpa using h))⟩)
        go_wp2_with fail
        go_ret2
        exact ⟨a, _, rfl, HT.out, HW.out⟩
      · have hd2 : decide ((a : Int) < n) = false := decide_eq_false (by omega)
        go_wp2_with fail
        go_ret2
        exact ⟨a, _, rfl, by simp, HR.out⟩

set_option maxRecDepth 100000 in
set_option maxHeartbeats 4000000 in
theorem position_any (so : Option Addr) (s : List Prt) (sc : Nat) (x : ByteArray) (hl : s.length ≤ 1000000) (W : World) (hi : IsL 14 ElPrt W so s) :
    Calls Try.prog 47 #[.agg #[.slice so s.length sc], .string x] W fun e w' => ∃ (k : Nat) (b : Bool), e = .returned (.tuple #[.int .i64 k, .bool b]) ∧ (b = true → ∃ p, s[k]? = some p ∧ p.name = x) ∧ Below W.heap.size W w' := by
  have HC := Lib.hid (fun (w : World) (hw : Below W.heap.size W w) => bsf_any so s sc x hl w (hi.below stPrt hw))
  obtain ⟨n, Hn⟩ : ∃ n, Hid (n = s.length) := ⟨_, Lib.hid rfl⟩
  rw [← Hn.out] at HC ⊢
  have HB : Hid (∀ o, Below W.heap.size W (W.alloc o)) := Lib.hid (fun o => (Below.refl _ _).alloc (Nat.le_refl _) _)
  clear hi
  go_enter Try.func47, Try.ntmps47
  go_wp2_with fail
  refine (HC.out _ (HB.out _)).mono ?_
  rintro e w' ⟨k, b, rfl, h1, h2⟩
  have H1 := Lib.hid h1
  have H2 := Lib.hid (below_step (HB.out _) h2)
  clear h1 h2
  go_wp2_with fail
  go_ret2
  exact ⟨k, b, rfl, H1.out, H2.out⟩
end Go.Proofs.Ytapjnbofhdljfaa
