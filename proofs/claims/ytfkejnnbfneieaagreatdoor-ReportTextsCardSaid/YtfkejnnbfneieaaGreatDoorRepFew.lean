/- Few of reports: true only if there are no more than said. -/
import Derived.Test.YtfkejnnbfneieaaGreatDoorRepValid
import Derived.Test.YtfkejnnbfneieaaGreatDoorZsArg
namespace Go.Proofs.YtfkejnnbfneieaaGreatDoor
open Go.RowKit
open Evt

/-- The answer of what asks for sizes: true only if they are such. -/
def YN (q : Prop) (W : World) (e : Ending) (w' : World) : Prop := ∃ b, e = .returned (.bool b) ∧ (b = true → q) ∧ Below W.heap.size W w'
set_option maxRecDepth 100000 in
set_option maxHeartbeats 4000000 in
theorem shortE_any (e : Ev) (W : World) :
    Calls Tryz.prog 60 #[.agg (evC e).toArray] W fun r w' => ∃ b, r = .returned (.bool b) ∧ Below W.heap.size W w' := by
  obtain ⟨op, day, part, kind, into, slot, key, value, k0, k1, c0, c1, d0, d1⟩ := e
  unfold evC
  obtain ⟨V, HV⟩ : ∃ w, Hid (w = W.alloc (.cells #[.int .i64 op, .int .i64 day, .string part, .string kind, .string into, .string slot, .string key, .string value, .int .i64 k0, .int .i64 k1, .int .i64 c0, .int .i64 c1, .int .i64 d0, .int .i64 d1] 50)) := ⟨_, Lib.hid rfl⟩
  have HB : Hid (Below W.heap.size W V) := Lib.hid (by rw [HV.out]; exact (Below.refl _ _).alloc (Nat.le_refl _) _)
  obtain ⟨y1, e1⟩ : ∃ b, decide ((part.size : Int) ≤ 300) = b := ⟨_, rfl⟩
  obtain ⟨y2, e2⟩ : ∃ b, decide ((kind.size : Int) ≤ 300) = b := ⟨_, rfl⟩
  obtain ⟨y3, e3⟩ : ∃ b, decide ((into.size : Int) ≤ 300) = b := ⟨_, rfl⟩
  obtain ⟨y4, e4⟩ : ∃ b, decide ((slot.size : Int) ≤ 300) = b := ⟨_, rfl⟩
  obtain ⟨y5, e5⟩ : ∃ b, decide ((key.size : Int) ≤ 300) = b := ⟨_, rfl⟩
  obtain ⟨y6, e6⟩ : ∃ b, decide ((value.size : Int) ≤ 300) = b := ⟨_, rfl⟩
  have hc : y1 = false ∨ (y1 = true ∧ y2 = false) ∨ (y1 = true ∧ y2 = true ∧ y3 = false) ∨ (y1 = true ∧ y2 = true ∧ y3 = true ∧ y4 = false) ∨ (y1 = true ∧ y2 = true ∧ y3 = true ∧ y4 = true ∧ y5 = false) ∨ (y1 = true ∧ y2 = true ∧ y3 = true ∧ y4 = true ∧ y5 = true) := by
    clear e1 e2 e3 e4 e5 e6
    cases y1 <;> cases y2 <;> cases y3 <;> cases y4 <;> cases y5 <;> simp
  go_enter Tryz.func60, Tryz.ntmps60
  rcases hc with rfl | ⟨rfl, rfl⟩ | ⟨rfl, rfl, rfl⟩ | ⟨rfl, rfl, rfl, rfl⟩ | ⟨rfl, rfl, rfl, rfl, rfl⟩ | ⟨rfl, rfl, rfl, rfl, rfl⟩
  all_goals
    go_wp2_with fail
    rw [← HV.out]
    go_ret
    exact ⟨_, rfl, HB.out⟩

set_option maxRecDepth 100000 in
set_option maxHeartbeats 4000000 in
theorem few09_any (ao : Option Addr) (l : List Ev) (cap : Nat) (hl : l.length ≤ 9223372036854775807) (W : World) (hi : IsL 14 ElEv W ao l) :
    Calls Tryz.prog 36 #[.slice ao l.length cap, .int .i64 6] W fun r w' => ∃ b, r = .returned (.bool b) ∧ Below W.heap.size W w' := by
  have HI := Lib.hid hi
  have HSp := Lib.hid ev_size
  have HSh := Lib.hid (@shortE_any)
  clear hi
  obtain ⟨n, Hn⟩ : ∃ n, Hid (n = l.length) := ⟨_, Lib.hid rfl⟩
  rw [← Hn.out]
  rw [← Hn.out] at hl
  obtain ⟨yn, en⟩ : ∃ b, decide ((n : Int) ≤ 6) = b := ⟨_, rfl⟩
  go_enter Tryz.func36, Tryz.ntmps36
  go_wp2_with fail
  go_loopw [5] (fun i wr => ∃ k : Nat, k ≤ n ∧ i = .int .i64 k ∧ Hid (Below W.heap.size W wr)) (fun i _ => n - (intOf i).toNat)
  case atStart => exact ⟨0, Nat.zero_le _, by go_num, Lib.hid (Below.refl _ _)⟩
  case round =>
    obtain ⟨k, hk, rfl, HR⟩ := hrel
    by_cases hkn : k < n
    · have hd : decide ((k : Int) < n) = true := decide_eq_true (by omega)
      have hb0 : (0 : Int) ≤ k := by omega
      have hb1 : (k : Int) < n := by omega
      have hkl : k < l.length := by rw [← Hn.out]; exact hkn
      obtain ⟨y6, e6⟩ : ∃ b, decide ((k : Int) ≤ 6) = b := ⟨_, rfl⟩
      obtain ⟨bk, off, cs, rfl, hbk, hrg, rfl, hsz⟩ := HI.out.at hkl
      obtain ⟨y, Hy⟩ : ∃ m, Hid (m = l[k]) := ⟨_, Lib.hid rfl⟩
      rw [← Hy.out] at hrg
      have HRg := Lib.hid (rangeB hrg hbk HR.out)
      have HS := Lib.hid (HSh.out y wr)
      clear hrg hsz hbk
      cases y6 with
      | false =>
        go_wp2_with fail
        go_ret
        exact ⟨_, rfl, HR.out⟩
      | true =>
        go_wp2_with (first
          | (with_reducible show wpList _ _ _ (Oper.mk _ (Op.load 50 _) _ _ _ _ :: _) _ _; refine wpList_load_mid rfl _ _ rfl bk (off + k * 14) rfl _ _ HRg.out Tryz.underlying50 rfl (HSp.out.trans rfl) ?_))
        refine HS.out.mono ?_
        rintro e w1 ⟨b, rfl, hb⟩
        have HB1 := Lib.hid (below_step HR.out hb)
        clear hb
        cases b with
        | false =>
          go_wp2_with fail
          go_ret
          exact ⟨_, rfl, HB1.out⟩
        | true =>
          go_wp2_with fail
          go_round
          case rel => exact ⟨k + 1, by omega, by go_num, HB1⟩
          case measure => simp [intOf]; omega
    · obtain rfl : k = n := by omega
      have hd : decide ((k : Int) < k) = false := decide_eq_false (by omega)
      go_wp2_with fail
      go_ret
      exact ⟨_, rfl, HR.out⟩

set_option maxRecDepth 100000 in
set_option maxHeartbeats 4000000 in
theorem few13_any (M : Nat) (ao : Option Addr) (l : List Rp) (cap : Nat) (hl : l.length ≤ 9223372036854775807) (W : World) (hi : IsL 2 ElRp W ao l) :
    Calls Tryz.prog 22 #[.slice ao l.length cap, .int .i64 M] W (YN (l.length ≤ M) W) := by
  have HI := Lib.hid hi
  have HSh := Lib.hid (@few09_any)
  clear hi
  obtain ⟨n, Hn⟩ : ∃ n, Hid (n = l.length) := ⟨_, Lib.hid rfl⟩
  rw [← Hn.out]
  rw [← Hn.out] at hl
  obtain ⟨yn, en⟩ : ∃ b, decide ((n : Int) ≤ M) = b := ⟨_, rfl⟩
  have en2 : decide (n ≤ M) = yn := by rw [← en]; congr 1; exact propext (by omega)
  have HY : Hid (yn = true → n ≤ M) := Lib.hid (fun h => by rw [← en] at h; have := of_decide_eq_true h; omega)
  go_enter Tryz.func22, Tryz.ntmps22
  go_wp2_with fail
  go_loopw [5] (fun i wr => ∃ k : Nat, k ≤ n ∧ i = .int .i64 k ∧ Hid (Below W.heap.size W wr)) (fun i _ => n - (intOf i).toNat)
  case atStart => exact ⟨0, Nat.zero_le _, by go_num, Lib.hid (Below.refl _ _)⟩
  case round =>
    obtain ⟨k, hk, rfl, HR⟩ := hrel
    by_cases hkn : k < n
    · have hd : decide ((k : Int) < n) = true := decide_eq_true (by omega)
      have hb0 : (0 : Int) ≤ k := by omega
      have hb1 : (k : Int) < n := by omega
      have hkl : k < l.length := by rw [← Hn.out]; exact hkn
      obtain ⟨bk, off, cs, rfl, hbk, hrg, oo, oc, rfl, hel, hoc1, hoc2⟩ := HI.out.at hkl
      obtain ⟨y, Hy⟩ : ∃ m, Hid (m = l[k]) := ⟨_, Lib.hid rfl⟩
      rw [← Hy.out] at hrg hel hoc1
      have hrg := rangeB hrg hbk HR.out
      have c0 := hrg 0 _ rfl
      rw [Nat.add_zero] at c0
      have HS := Lib.hid (HSh.out oo y.opts oc (by omega) wr (hel.below stEv HR.out))
      obtain ⟨on, Hon⟩ : ∃ m, Hid (m = y.opts.length) := ⟨_, Lib.hid rfl⟩
      rw [← Hon.out] at c0 HS
      clear hrg hel hoc1
      cases yn with
      | false =>
        go_wp2_with fail
        go_ret
        exact ⟨false, rfl, by simp, HR.out⟩
      | true =>
        go_wp2_with fail
        refine HS.out.mono ?_
        rintro e w1 ⟨b, rfl, hb⟩
        have HB1 := Lib.hid (below_step HR.out hb)
        clear hb
        cases b with
        | false =>
          go_wp2_with fail
          go_ret
          exact ⟨false, rfl, by simp, HB1.out⟩
        | true =>
          go_wp2_with fail
          go_round
          case rel => exact ⟨k + 1, by omega, by go_num, HB1⟩
          case measure => simp [intOf]; omega
    · obtain rfl : k = n := by omega
      have hd : decide ((k : Int) < k) = false := decide_eq_false (by omega)
      go_wp2_with fail
      go_ret
      exact ⟨yn, rfl, HY.out, HR.out⟩
end Go.Proofs.YtfkejnnbfneieaaGreatDoor

/- The law's few: true only if there are no more than said. -/
namespace Go.Proofs.YtfkejnnbfneieaaGreatDoor
open Go.RowKit
open Evt

set_option maxRecDepth 100000 in
theorem fewLaw_any (ao : Option Addr) (l : List Rp) (cap : Nat) (hl : l.length ≤ 9223372036854775807) (co : Option Addr) (n c : Nat) (hn : n ≤ 9223372036854775807) (W : World) (hi : IsL 2 ElRp W ao l) :
    Calls Tryz.prog 6 #[.slice ao l.length cap, .slice co n c] W (YN (l.length ≤ 12 ∧ n ≤ 30) W) := by
  have HS := Lib.hid (few13_any 12 ao l cap hl W hi)
  clear hi
  obtain ⟨m, Hm⟩ : ∃ n, Hid (n = l.length) := ⟨_, Lib.hid rfl⟩
  rw [← Hm.out] at HS ⊢
  obtain ⟨y, hy⟩ : ∃ b, decide ((n : Int) ≤ 30) = b := ⟨_, rfl⟩
  have hy2 : decide (n ≤ 30) = y := by rw [← hy]; congr 1; exact propext (by omega)
  have HY : Hid (y = true → n ≤ 30) := Lib.hid (fun h => by rw [← hy2] at h; exact of_decide_eq_true h)
  go_enter Tryz.func6, Tryz.ntmps6
  go_wp2_with fail
  refine HS.out.mono ?_
  rintro e w1 ⟨b, rfl, h, hb⟩
  have HE := Lib.hid h
  have HB := Lib.hid hb
  clear h hb
  cases b with
  | false =>
    go_wp2_with fail
    go_ret
    exact ⟨false, rfl, (fun h => by cases h), HB.out⟩
  | true =>
    have hm := HE.out rfl
    have Hm2 := Lib.hid hm
    clear hm
    go_wp2_with fail
    go_ret
    exact ⟨y, rfl, (fun h => ⟨Hm2.out, HY.out h⟩), HB.out⟩
end Go.Proofs.YtfkejnnbfneieaaGreatDoor
