/- The walks of the reference implementation of days: the day of a date, and months later. -/
import Derived.Test.YthnipdcdiffioabDoorDayRefA
namespace Go.Proofs.YthnipdcdiffioabDoor
open Go.RowKit

set_option maxHeartbeats 1000000 in
theorem refNumber_arg (y m d : Int) (h : badDate y m d) (w : World) :
    Calls Tryd.prog 12 #[.int .i64 y, .int .i64 m, .int .i64 d] w fun e w' => e = .returned (.tuple #[.int .i64 0, .int .i64 1]) ∧ w = w' := by
  by_cases a : m < 1
  · clear h
    go_enter Tryd.func12, Tryd.ntmps12
    go_wp2
    go_ret2
    exact ⟨rfl, rfl⟩
  · by_cases b : 12 < m
    · clear h
      go_enter Tryd.func12, Tryd.ntmps12
      go_wp2
      go_ret2
      exact ⟨rfl, rfl⟩
    · by_cases c : d < 1
      · clear h
        go_enter Tryd.func12, Tryd.ntmps12
        go_wp2
        go_ret2
        exact ⟨rfl, rfl⟩
      · obtain ⟨l, Hl⟩ : ∃ l, Hid (l = Cal.mlen y m) := ⟨_, Lib.hid rfl⟩
        have hd : l < d := by rw [Hl.out]; unfold badDate at h; omega
        have HL : Hid (Calls Tryd.prog 21 #[.int .i64 y, .int .i64 m] w fun e w' => e = .returned (.int .i64 l) ∧ w = w') := by rw [Hl.out]; exact Lib.hid (refLength_any y m w)
        clear h
        go_enter Tryd.func12, Tryd.ntmps12
        go_wp2_with fail
        refine HL.out.mono ?_
        rintro e _ ⟨rfl, rfl⟩
        go_wp2
        go_ret2
        exact ⟨rfl, rfl⟩
set_option maxHeartbeats 1000000 in
theorem refNumber_year (y m d : Int) (h : ¬ badDate y m d) (hy : y < 2000 ∨ 2109 < y) (w : World) :
    Calls Tryd.prog 12 #[.int .i64 y, .int .i64 m, .int .i64 d] w fun e w' => e = .returned (.tuple #[.int .i64 0, .int .i64 13]) ∧ w = w' := by
  unfold badDate at h
  obtain ⟨l, Hl⟩ : ∃ l, Hid (l = Cal.mlen y m) := ⟨_, Lib.hid rfl⟩
  rw [← Hl.out] at h
  have a1 : ¬ m < 1 := by omega
  have a2 : ¬ 12 < m := by omega
  have a3 : ¬ d < 1 := by omega
  have a4 : ¬ l < d := by omega
  have HL : Hid (Calls Tryd.prog 21 #[.int .i64 y, .int .i64 m] w fun e w' => e = .returned (.int .i64 l) ∧ w = w') := by rw [Hl.out]; exact Lib.hid (refLength_any y m w)
  clear h
  rcases Int.lt_or_le y 2000 with h | h
  · clear hy
    go_enter Tryd.func12, Tryd.ntmps12
    go_wp2_with fail
    refine HL.out.mono ?_
    rintro e _ ⟨rfl, rfl⟩
    go_wp2
    go_ret2
    exact ⟨rfl, rfl⟩
  · have h2 : 2109 < y := by omega
    clear hy
    go_enter Tryd.func12, Tryd.ntmps12
    go_wp2_with fail
    refine HL.out.mono ?_
    rintro e _ ⟨rfl, rfl⟩
    go_wp2
    go_ret2
    exact ⟨rfl, rfl⟩

set_option maxHeartbeats 4000000 in
theorem refNumber_run (a0 b0 : Nat) (d : Int) (hA : a0 ≤ 109) (hB : b0 < 12) (h1 : 1 ≤ d) (h2 : d ≤ Cal.len (12 * a0 + b0)) (v : Bool) (hv : (decide (0 ≤ Cal.cum (12 * a0 + b0) + d - 1) && decide (Cal.cum (12 * a0 + b0) + d - 1 ≤ 40000)) = v) (w : World) :
    Calls Tryd.prog 12 #[.int .i64 (2000 + (a0 : Int)), .int .i64 ((b0 : Int) + 1), .int .i64 d] w fun e w' => e = .returned (.tuple #[.int .i64 (if v then Cal.cum (12 * a0 + b0) + d - 1 else 0), .int .i64 (if v then 0 else 13)]) ∧ Below w.heap.size w w' := by
  obtain ⟨K, HK⟩ : ∃ K, Hid (K = 12 * a0 + b0) := ⟨_, Lib.hid rfl⟩
  rw [← HK.out] at h2 hv ⊢
  have hyr : ∀ a b : Nat, b < 12 → Cal.yr (12 * a + b) = 2000 + (a : Int) ∧ Cal.mo (12 * a + b) = (b : Int) + 1 := fun a b hb => Cal.yr_at a b hb
  have HYR := Lib.hid hyr
  obtain ⟨l, Hl⟩ : ∃ a, Hid (a = Cal.len K) := ⟨_, Lib.hid rfl⟩
  have l1 : l ≤ 31 := by rw [Hl.out]; exact (Cal.len_bd K).2
  rw [← Hl.out] at h2
  have HLen : Hid (∀ (a b : Nat), b < 12 → ∀ W : World, Calls Tryd.prog 21 #[.int .i64 (2000 + (a : Int)), .int .i64 ((b : Int) + 1)] W fun e w' => e = .returned (.int .i64 (Cal.len (12 * a + b))) ∧ W = w') := Lib.hid fun a b hb W => by
    have := refLength_any (2000 + (a : Int)) ((b : Int) + 1) W
    obtain ⟨e1, e2⟩ := HYR.out a b hb
    rw [← e1, ← e2] at this ⊢
    exact this
  have HL : Hid (∀ W : World, Calls Tryd.prog 21 #[.int .i64 (2000 + (a0 : Int)), .int .i64 ((b0 : Int) + 1)] W fun e w' => e = .returned (.int .i64 l) ∧ W = w') := Lib.hid fun W => by
    have := HLen.out a0 b0 hB W
    rw [Hl.out, HK.out]; exact this
  have HV := Lib.hid hv
  have HB : Hid (∀ k : Nat, k ≤ 1400 → 0 ≤ Cal.cum k ∧ Cal.cum k ≤ 50000) := Lib.hid fun k hk => ⟨Cal.cum_nonneg k, by have := Cal.cum_le k; omega⟩
  have HD : Hid (∀ W : World, Calls Tryd.prog 20 #[.int .i64 (d - 1 + Cal.cum K)] W fun e w' => e = .returned (.bool v) ∧ W = w') := Lib.hid fun W => refIs_val _ v (by rw [show d - 1 + Cal.cum K = Cal.cum K + d - 1 by omega]; exact HV.out) W
  clear hv hyr
  go_enter Tryd.func12, Tryd.ntmps12
  go_wp2_with fail
  refine (HL.out _).mono ?_
  rintro e _ ⟨rfl, rfl⟩
  go_wp2_with fail
  go_loopw [8, 9] (fun x y wr => ∃ a : Nat, a ≤ a0 + 1 ∧ x = .int .i64 (d - 1 + Cal.cum (min (12 * a) K)) ∧ y = .int .i64 (2000 + (a : Int)) ∧ Below w.heap.size w wr) (fun _ y _ => 3000 - (intOf y).toNat)
  case atStart => exact ⟨0, by omega, by simp [Cal.cum], by simp, Below.refl _ _⟩
  case round =>
    obtain ⟨a, ha, rfl, rfl, hbr⟩ := hrel
    obtain ⟨wo, rfl⟩ : ∃ wo : World, wo = wr := ⟨_, rfl⟩
    by_cases haa : a ≤ a0
    · go_wp2_with fail
      go_loopw [8, 10] (fun x m wr => ∃ b : Nat, b ≤ 12 ∧ x = .int .i64 (d - 1 + Cal.cum (min (12 * a + b) K)) ∧ m = .int .i64 ((b : Int) + 1) ∧ Below w.heap.size w wr) (fun _ m _ => 14 - (intOf m).toNat)
      case atStart => exact ⟨0, by omega, by simp, by simp, hbr⟩
      case round =>
        clear hbr
        obtain ⟨b, hb, rfl, rfl, hbr⟩ := hrel
        by_cases hlt : b < 12
        · obtain ⟨c, Hc⟩ : ∃ c, Hid (c = Cal.cum (min (12 * a + b) K)) := ⟨_, Lib.hid rfl⟩
          rw [← Hc.out]
          have c0 : 0 ≤ c := by rw [Hc.out]; exact (HB.out _ (by omega)).1
          have c1 : c ≤ 50000 := by rw [Hc.out]; exact (HB.out _ (by omega)).2
          obtain ⟨l2, Hl2⟩ : ∃ z, Hid (z = Cal.len (12 * a + b)) := ⟨_, Lib.hid rfl⟩
          have l20 : 28 ≤ l2 := by rw [Hl2.out]; exact (Cal.len_bd _).1
          have l21 : l2 ≤ 31 := by rw [Hl2.out]; exact (Cal.len_bd _).2
          have HL2 : Hid (∀ W : World, Calls Tryd.prog 21 #[.int .i64 (2000 + (a : Int)), .int .i64 ((b : Int) + 1)] W fun e w' => e = .returned (.int .i64 l2) ∧ W = w') := Lib.hid fun W => by rw [Hl2.out]; exact HLen.out a b hlt W
          by_cases hay : a < a0
          · have hin : 12 * a + b < K := by rw [HK.out]; omega
            have Hn : Hid (Cal.cum (min (12 * a + (b + 1)) K) = c + l2) := by
              rw [Hc.out, Hl2.out, show min (12 * a + (b + 1)) K = 12 * a + b + 1 by omega, show min (12 * a + b) K = 12 * a + b by omega]; exact Lib.hid rfl
            go_wp2_with fail
            refine (HL2.out _).mono ?_
            rintro e _ ⟨rfl, rfl⟩
            go_wp2
            go_roundw
            case rel => exact ⟨b + 1, by omega, by rw [Hn.out]; go_num, by go_num, hbr⟩
            case measure => simp [intOf]; omega
          · have hae : a = a0 := by omega
            subst hae
            by_cases hbm : b < b0
            · have hin : 12 * a + b < K := by rw [HK.out]; omega
              have Hn : Hid (Cal.cum (min (12 * a + (b + 1)) K) = c + l2) := by
                rw [Hc.out, Hl2.out, show min (12 * a + (b + 1)) K = 12 * a + b + 1 by omega, show min (12 * a + b) K = 12 * a + b by omega]; exact Lib.hid rfl
              clear haa hay ha
              go_wp2_with fail
              refine (HL2.out _).mono ?_
              rintro e _ ⟨rfl, rfl⟩
              go_wp2
              go_roundw
              case rel => exact ⟨b + 1, by omega, by rw [Hn.out]; go_num, by go_num, hbr⟩
              case measure => simp [intOf]; omega
            · have Hn : Hid (Cal.cum (min (12 * a + (b + 1)) K) = c) := by
                rw [Hc.out, show min (12 * a + (b + 1)) K = min (12 * a + b) K by have := HK.out; omega]; exact Lib.hid rfl
              clear haa hay ha
              go_wp2
              go_roundw
              case rel => exact ⟨b + 1, by omega, by rw [Hn.out], by go_num, hbr⟩
              case measure => simp [intOf]; omega
        · obtain rfl : b = 12 := by omega
          go_wp2
          go_roundw
          case rel => exact ⟨a + 1, by omega, by rw [show 12 * (a + 1) = 12 * a + 12 by omega], by go_num, hbr⟩
          case measure => simp [intOf]; omega
    · have hae : a = a0 + 1 := by omega
      subst hae
      have Hmin : Hid (min (12 * (a0 + 1)) K = K) := Lib.hid (by have := HK.out; omega)
      rw [Hmin.out]
      obtain ⟨c, Hc⟩ : ∃ c, Hid (c = Cal.cum K) := ⟨_, Lib.hid rfl⟩
      have c0 : 0 ≤ c := by rw [Hc.out]; exact (HB.out _ (by have := HK.out; omega)).1
      have c1 : c ≤ 50000 := by rw [Hc.out]; exact (HB.out _ (by have := HK.out; omega)).2
      have HD2 : Hid (∀ W : World, Calls Tryd.prog 20 #[.int .i64 (d - 1 + c)] W fun e w' => e = .returned (.bool v) ∧ W = w') := by rw [Hc.out]; exact HD
      rw [← Hc.out]
      cases v
      · go_wp2_with fail
        refine (HD2.out _).mono ?_
        rintro e _ ⟨rfl, rfl⟩
        go_wp2
        go_ret2
        exact ⟨rfl, hbr⟩
      · go_wp2_with fail
        refine (HD2.out _).mono ?_
        rintro e _ ⟨rfl, rfl⟩
        go_wp2
        refine bodyPost_ret (v := .tuple #[.int .i64 (d - 1 + c), .int .i64 0]) (by simp [results, Tryd.results12, go_sem]) rfl ⟨?_, hbr⟩
        rw [show d - 1 + c = c + d - 1 by omega, Hc.out]

theorem refNumber_any (y m d : Int) (w : World) :
    Calls Tryd.prog 12 #[.int .i64 y, .int .i64 m, .int .i64 d] w fun e w' => e = .returned (.tuple #[.int .i64 (if numE y m d = 0 then numV y m d else 0), .int .i64 (numE y m d)]) ∧ Below w.heap.size w w' := by
  by_cases hb : badDate y m d
  · have he : numE y m d = 1 := by unfold numE; unfold badDate at hb; rw [if_pos hb]
    rw [he]
    exact (refNumber_arg y m d hb w).mono fun e w' ⟨h1, h2⟩ => ⟨h1, h2 ▸ Below.refl _ _⟩
  · by_cases hy : y < 2000 ∨ 2109 < y
    · have he : numE y m d = 13 := by unfold numE; unfold badDate at hb; rw [if_neg hb, if_pos hy]
      rw [he]
      exact (refNumber_year y m d hb hy w).mono fun e w' ⟨h1, h2⟩ => ⟨h1, h2 ▸ Below.refl _ _⟩
    · have hb' := hb
      unfold badDate at hb'
      obtain ⟨K, hK⟩ : ∃ K, K = (12 * (y - 2000) + (m - 1)).toNat := ⟨_, rfl⟩
      have e1 : Cal.yr K = y := by rw [hK]; exact (Cal.yr_mo (by omega) (by omega) (by omega)).1
      have e2 : Cal.mo K = m := by rw [hK]; exact (Cal.yr_mo (by omega) (by omega) (by omega)).2
      have e3 : Cal.len K = Cal.mlen y m := by unfold Cal.len; rw [e1, e2]
      have e4 : numV y m d = Cal.cum K + d - 1 := by unfold numV; rw [← hK]
      have hn0 : 0 ≤ Cal.cum K + d - 1 := by have := Cal.cum_nonneg K; omega
      have he : numE y m d = if Cal.cum K + d - 1 ≤ 40000 then 0 else 13 := by unfold numE; rw [if_neg hb', if_neg hy, e4]
      have eK : 12 * (K / 12) + K % 12 = K := by omega
      have key := refNumber_run (K / 12) (K % 12) d (by omega) (by omega) (by omega) (by rw [eK, e3]; omega) (decide (Cal.cum K + d - 1 ≤ 40000)) (by rw [eK, decide_eq_true hn0, Bool.true_and]) w
      have f1 : 2000 + ((K / 12 : Nat) : Int) = y := e1
      have f2 : ((K % 12 : Nat) : Int) + 1 = m := e2
      rw [eK, f1, f2] at key
      rw [he, e4]
      by_cases hle : Cal.cum K + d - 1 ≤ 40000
      · rw [decide_eq_true hle] at key
        rw [if_pos hle, if_pos rfl]
        exact key
      · rw [decide_eq_false hle] at key
        rw [if_neg hle, if_neg (by decide)]
        exact key

end Go.Proofs.YthnipdcdiffioabDoor
