/- The statement on months later: its walk. -/
import Derived.Test.YthnipdcdiffioabDoorDayDates
namespace Go.Proofs.YthnipdcdiffioabDoor
open Go.RowKit

theorem numE_mon (n c : Int) (K : Nat) (h1 : Cal.cum K ≤ n) : numE (monY K c) (monM K c) (monD n K c) = 0 ∨ numE (monY K c) (monM K c) (monD n K c) = 13 := by
  have hm : 1 ≤ monM K c ∧ monM K c ≤ 12 := by unfold monM; omega
  have hl := Cal.mlen_bd (monY K c) (monM K c)
  have hd : 1 ≤ monD n K c ∧ monD n K c ≤ Cal.mlen (monY K c) (monM K c) := by unfold monD; split <;> omega
  unfold numE
  rw [if_neg (by omega)]
  split
  · exact Or.inr rfl
  · split
    · exact Or.inl rfl
    · exact Or.inr rfl
/-- No months later is the day itself. -/
theorem months_zero (n : Int) (K : Nat) (hK : K < 1315) (h1 : Cal.cum K ≤ n) (h2 : n < Cal.cum (K + 1)) (h : 0 ≤ n ∧ n ≤ 40000) :
    numE (monY K 0) (monM K 0) (monD n K 0) = 0 ∧ numV (monY K 0) (monM K 0) (monD n K 0) = n := by
  have e1 : monY K 0 = Cal.yr K := by unfold monY Cal.yr; omega
  have e2 : monM K 0 = Cal.mo K := by unfold monM Cal.mo; omega
  have e3 : monD n K 0 = n - Cal.cum K + 1 := by
    have hl : Cal.cum (K + 1) = Cal.cum K + Cal.mlen (Cal.yr K) (Cal.mo K) := rfl
    unfold monD
    rw [e1, e2, if_neg (by omega)]
  rw [e1, e2, e3]
  exact num_date n K hK h1 h2 h
/-- Going back leads to the same day, or to one that is at most three days earlier. -/
theorem months_back (n c : Int) (K L : Nat) (hK : K < 1315) (h1 : Cal.cum K ≤ n) (h2 : n < Cal.cum (K + 1)) (h : 0 ≤ n ∧ n ≤ 40000)
    (l5 : Cal.yr L = monY K c) (l6 : Cal.mo L = monM K c) (v : Int) (l7 : v - Cal.cum L + 1 = monD n K c) :
    numE (monY L (-c)) (monM L (-c)) (monD v L (-c)) = 0 ∧ n - 3 ≤ numV (monY L (-c)) (monM L (-c)) (monD v L (-c)) ∧ numV (monY L (-c)) (monM L (-c)) (monD v L (-c)) ≤ n := by
  have hL : (L : Int) = K + c := by
    unfold Cal.yr monY at l5; unfold Cal.mo monM at l6; omega
  have e1 : monY L (-c) = Cal.yr K := by unfold monY Cal.yr; omega
  have e2 : monM L (-c) = Cal.mo K := by unfold monM Cal.mo; omega
  have hl : Cal.cum (K + 1) = Cal.cum K + Cal.mlen (Cal.yr K) (Cal.mo K) := rfl
  have hb1 := Cal.mlen_bd (monY K c) (monM K c)
  have hb2 := Cal.mlen_bd (Cal.yr K) (Cal.mo K)
  have hd : monD n K c ≤ n - Cal.cum K + 1 ∧ n - Cal.cum K + 1 - 3 ≤ monD n K c ∧ 1 ≤ monD n K c := by unfold monD; split <;> omega
  have e3 : monD v L (-c) = monD n K c := by
    rw [← l7]
    unfold monD at hd ⊢
    rw [e1, e2, l7]
    unfold monD
    split at hd
    · rename_i hh
      rw [if_pos hh, if_neg (by omega)]
    · rename_i hh
      rw [if_neg hh, if_neg (by omega)]
  rw [e1, e2, e3]
  have hi : (12 * (Cal.yr K - 2000) + (Cal.mo K - 1)).toNat = K := by unfold Cal.yr Cal.mo; omega
  have hv : numV (Cal.yr K) (Cal.mo K) (monD n K c) = Cal.cum K + monD n K c - 1 := by unfold numV; rw [hi]
  have hm := Cal.mo_bd K
  refine ⟨?_, by omega, by omega⟩
  unfold numE
  rw [hv, if_neg (by omega), if_neg (by unfold Cal.yr; omega), if_pos (by omega)]

set_option maxRecDepth 100000 in
set_option maxHeartbeats 4000000 in
theorem lawMonths_out (n c : Int) (hin : ¬ (0 ≤ n ∧ n ≤ 40000)) (w : World) (hT : MTab w) (ht : Tab w) :
    Calls Tryd.prog 7 #[.int .i64 n, .int .i64 c] w fun e w' => e = .returned (.bool true) ∧ Below w.heap.size w w' := by
  have HM : Hid (∀ c W, Calls Tryd.prog 17 #[.int .i64 n, .int .i64 c] W fun e w' => e = .returned (.tuple #[.int .i64 0, .int .i64 13]) ∧ W = w') := Lib.hid fun c W => months_bad n c (Or.inl hin) W
  have ho : n < 0 ∨ (¬ n < 0 ∧ 40000 < n) := by omega
  have HH := Lib.hid (dayHead_any w hT ht)
  clear hT ht hin
  rcases ho with ho | ⟨ho1, ho2⟩
  all_goals
    go_enter Tryd.func7, Tryd.ntmps7
    go_wp2_with fail
    refine HH.out.mono ?_
    rintro e v1 ⟨rfl, hb⟩
    go_wp2_with fail
    refine (HM.out _ _).mono ?_
    rintro e _ ⟨rfl, rfl⟩
    go_wp2_with fail
    refine (HM.out _ _).mono ?_
    rintro e _ ⟨rfl, rfl⟩
    go_wp2
    go_ret
    exact ⟨rfl, hb⟩

set_option maxRecDepth 100000 in
set_option maxHeartbeats 4000000 in
theorem lawMonths_err (n c : Int) (hin : 0 ≤ n ∧ n ≤ 40000) (hM : ∀ W, MTab W → Calls Tryd.prog 17 #[.int .i64 n, .int .i64 c] W fun e w' => e = .returned (.tuple #[.int .i64 0, .int .i64 13]) ∧ Below W.heap.size W w') (w : World) (hT : MTab w) (ht : Tab w) :
    Calls Tryd.prog 7 #[.int .i64 n, .int .i64 c] w fun e w' => e = .returned (.bool true) ∧ Below w.heap.size w w' := by
  have HT := Lib.hid hT
  have HM := Lib.hid hM
  have HZ : Hid (∀ W, MTab W → Calls Tryd.prog 17 #[.int .i64 n, .int .i64 0] W fun e w' => e = .returned (.tuple #[.int .i64 n, .int .i64 0]) ∧ Below W.heap.size W w') := by
    obtain ⟨K, k1, k2, k3, k4⟩ := month_K n hin
    obtain ⟨z1, z2⟩ := months_zero n K k2 k3 k4 hin
    refine Lib.hid fun W hW => ?_
    have := months_good n 0 K k1 k3 k4 hin (by decide) (by decide) W hW
    rw [z1, z2, if_pos rfl] at this
    exact this
  have HH := Lib.hid (dayHead_any w hT ht)
  obtain ⟨n0, n1⟩ := hin
  clear hT ht hM
  go_enter Tryd.func7, Tryd.ntmps7
  go_wp2_with fail
  refine HH.out.mono ?_
  rintro e v1 ⟨rfl, hb⟩
  go_wp2_with fail
  refine (HM.out _ (HT.out.below hb)).mono ?_
  rintro e v2 ⟨rfl, h⟩
  replace hb := hb.trans (h.mono hb.size)
  clear h
  go_wp2_with fail
  refine (HZ.out _ (HT.out.below hb)).mono ?_
  rintro e v3 ⟨rfl, h⟩
  replace hb := hb.trans (h.mono hb.size)
  clear h
  go_wp2
  go_ret
  exact ⟨rfl, hb⟩

set_option maxRecDepth 100000 in
set_option maxHeartbeats 4000000 in
theorem lawMonths_ok (n c : Int) (hin : 0 ≤ n ∧ n ≤ 40000) (hc1 : -12000 ≤ c) (hc2 : c ≤ 12000) (K : Nat) (k1 : K ≤ 1320) (k2 : K < 1315) (k3 : Cal.cum K ≤ n) (k4 : n < Cal.cum (K + 1)) (hE : numE (monY K c) (monM K c) (monD n K c) = 0) (w : World) (hT : MTab w) (ht : Tab w) :
    Calls Tryd.prog 7 #[.int .i64 n, .int .i64 c] w fun e w' => e = .returned (.bool true) ∧ Below w.heap.size w w' := by
  have HT := Lib.hid hT
  obtain ⟨v, Hv⟩ : ∃ v, Hid (v = numV (monY K c) (monM K c) (monD n K c)) := ⟨_, Lib.hid rfl⟩
  obtain ⟨L, l1, l2, l3, l4, l5, l6, l7⟩ := date_num _ _ _ hE
  rw [← Hv.out] at l2 l3 l4 l7
  have HM : Hid (∀ W, MTab W → Calls Tryd.prog 17 #[.int .i64 n, .int .i64 c] W fun e w' => e = .returned (.tuple #[.int .i64 v, .int .i64 0]) ∧ Below W.heap.size W w') := Lib.hid fun W hW => by
    have := months_good n c K k1 k3 k4 hin hc1 hc2 W hW
    rw [hE, if_pos rfl, ← Hv.out] at this
    exact this
  have HZ : Hid (∀ W, MTab W → Calls Tryd.prog 17 #[.int .i64 n, .int .i64 0] W fun e w' => e = .returned (.tuple #[.int .i64 n, .int .i64 0]) ∧ Below W.heap.size W w') := by
    obtain ⟨z1, z2⟩ := months_zero n K k2 k3 k4 hin
    refine Lib.hid fun W hW => ?_
    have := months_good n 0 K k1 k3 k4 hin (by decide) (by decide) W hW
    rw [z1, z2, if_pos rfl] at this
    exact this
  obtain ⟨m1, m2, m3⟩ := months_back n c K L k2 k3 k4 hin l5 l6 v l7
  obtain ⟨r, Hr⟩ : ∃ r, Hid (r = numV (monY L (-c)) (monM L (-c)) (monD v L (-c))) := ⟨_, Lib.hid rfl⟩
  rw [← Hr.out] at m2 m3
  have HB : Hid (∀ W, MTab W → Calls Tryd.prog 17 #[.int .i64 v, .int .i64 (-c)] W fun e w' => e = .returned (.tuple #[.int .i64 r, .int .i64 0]) ∧ Below W.heap.size W w') := Lib.hid fun W hW => by
    have := months_good v (-c) L l1 l2 l3 l4 (by omega) (by omega) W hW
    rw [m1, if_pos rfl, ← Hr.out] at this
    exact this
  obtain ⟨a, Ha⟩ : ∃ a, Hid (a = Cal.yr K) := ⟨_, Lib.hid rfl⟩
  obtain ⟨b, Hb⟩ : ∃ a, Hid (a = Cal.mo K) := ⟨_, Lib.hid rfl⟩
  obtain ⟨d, Hd⟩ : ∃ a, Hid (a = n - Cal.cum K + 1) := ⟨_, Lib.hid rfl⟩
  obtain ⟨Y, HY⟩ : ∃ a, Hid (a = monY K c) := ⟨_, Lib.hid rfl⟩
  obtain ⟨M, HMm⟩ : ∃ a, Hid (a = monM K c) := ⟨_, Lib.hid rfl⟩
  obtain ⟨D, HD⟩ : ∃ a, Hid (a = monD n K c) := ⟨_, Lib.hid rfl⟩
  have HO1 : Hid (∀ W, MTab W → Calls Tryd.prog 9 #[.int .i64 n] W fun e w' => e = .returned (.tuple #[.agg #[.int .i64 a, .int .i64 b, .int .i64 d], .int .i64 0]) ∧ Below W.heap.size W w') := Lib.hid fun W hW => by rw [Ha.out, Hb.out, Hd.out]; exact of_good n K k1 k3 k4 hin W hW
  have HO2 : Hid (∀ W, MTab W → Calls Tryd.prog 9 #[.int .i64 v] W fun e w' => e = .returned (.tuple #[.agg #[.int .i64 Y, .int .i64 M, .int .i64 D], .int .i64 0]) ∧ Below W.heap.size W w') := Lib.hid fun W hW => by
    have := of_good v L l1 l2 l3 l4 W hW
    rw [l5, l6, l7] at this
    rw [HY.out, HMm.out, HD.out]; exact this
  have a0 : 2000 ≤ a := by rw [Ha.out]; unfold Cal.yr; omega
  have a1 : a ≤ 2110 := by rw [Ha.out]; unfold Cal.yr; omega
  have b0 : 1 ≤ b := by rw [Hb.out]; exact (Cal.mo_bd K).1
  have b1 : b ≤ 12 := by rw [Hb.out]; exact (Cal.mo_bd K).2
  have Y0 : 0 ≤ Y := by rw [HY.out]; unfold monY; omega
  have Y1 : Y ≤ 5000 := by rw [HY.out]; unfold monY; omega
  have M0 : 1 ≤ M := by rw [HMm.out]; unfold monM; omega
  have M1 : M ≤ 12 := by rw [HMm.out]; unfold monM; omega
  have D0 : 1 ≤ D := by rw [HD.out]; have := Cal.mlen_bd (monY K c) (monM K c); unfold monD; split <;> omega
  have D1 : D ≤ 31 := by rw [HD.out]; have := Cal.mlen_bd (monY K c) (monM K c); unfold monD; split <;> omega
  have hsum : 12 * Y + M = 12 * a + b + c := by rw [HY.out, HMm.out, Ha.out, Hb.out]; unfold monY monM Cal.yr Cal.mo; omega
  have hDd : D ≤ d := by rw [HD.out, Hd.out]; unfold monD; split <;> omega
  have hne : (12 * Y + M != 12 * a + b + c) = false := by rw [hsum]; simp
  have HN : Hid (D < d → ∀ W, MTab W → Calls Tryd.prog 11 #[.int .i64 Y, .int .i64 M, .int .i64 (D + 1)] W fun e w' => e = .returned (.tuple #[.int .i64 0, .int .i64 1]) ∧ Below W.heap.size W w') := Lib.hid fun hlt W hW => by
    have hbd : badDate Y M (D + 1) := by
      rw [HD.out, Hd.out] at hlt
      unfold badDate
      rw [HY.out, HMm.out, HD.out]
      unfold monD at hlt ⊢
      split at hlt
      · rename_i hh; rw [if_pos hh]; omega
      · omega
    exact (number_arg Y M (D + 1) hbd W hW).mono fun e w' ⟨h1, h2⟩ => ⟨h1, h2 ▸ Below.refl _ _⟩
  have HH := Lib.hid (dayHead_any w hT ht)
  obtain ⟨n0, n1⟩ := hin
  obtain ⟨v0, v1⟩ := l4
  have Hm2 := Lib.hid m2
  clear hT ht hE k1 k2 k3 k4 l1 l2 l3 l5 l6 l7 m1 hsum m2
  by_cases hlt : D < d
  all_goals
    go_enter Tryd.func7, Tryd.ntmps7
    go_wp2_with fail
    refine HH.out.mono ?_
    rintro e u1 ⟨rfl, hb⟩
    go_wp2_with fail
    refine (HM.out _ (HT.out.below hb)).mono ?_
    rintro e u2 ⟨rfl, h⟩
    replace hb := hb.trans (h.mono hb.size)
    clear h
    go_wp2_with fail
    refine (HZ.out _ (HT.out.below hb)).mono ?_
    rintro e u3 ⟨rfl, h⟩
    replace hb := hb.trans (h.mono hb.size)
    clear h
    go_wp2_with fail
    refine (HO1.out _ (HT.out.below hb)).mono ?_
    rintro e u4 ⟨rfl, h⟩
    replace hb := hb.trans (h.mono hb.size)
    clear h
    go_wp2_with fail
    have K1 := Lib.hid (Cells3.new u4 a b d 24)
    refine (HO2.out _ (HT.out.below (hb.alloc hb.size _))).mono ?_
    rintro e u5 ⟨rfl, h⟩
    replace K1 := Lib.hid (K1.out.keep h)
    replace hb := (hb.alloc hb.size _).trans (h.mono (by have := hb.size; simp; omega))
    clear h
    have q0 := K1.out.c0
    have q1 := K1.out.c1
    have q2 := K1.out.c2
    have q9 := K1.out.lt
    go_wp2_with fail
  · refine (HN.out hlt _ (HT.out.below (hb.alloc hb.size _))).mono ?_
    rintro e u6 ⟨rfl, h⟩
    replace hb := (hb.alloc hb.size _).trans (h.mono (by have := hb.size; simp; omega))
    clear h q0 q1 q2 q9
    go_wp2_with fail
    refine (HB.out _ (HT.out.below hb)).mono ?_
    rintro e u7 ⟨rfl, h⟩
    replace hb := hb.trans (h.mono hb.size)
    have m2 := Hm2.out
    go_wp2
    go_ret
    exact ⟨rfl, hb⟩
  · refine (HB.out _ (HT.out.below (hb.alloc hb.size _))).mono ?_
    rintro e u7 ⟨rfl, h⟩
    replace hb := (hb.alloc hb.size _).trans (h.mono (by have := hb.size; simp; omega))
    clear h q0 q1 q2 q9
    have m2 := Hm2.out
    go_wp2
    go_ret
    exact ⟨rfl, hb⟩

theorem lawMonths_any (n c : Int) (w : World) (hT : MTab w) (ht : Tab w) :
    Calls Tryd.prog 7 #[.int .i64 n, .int .i64 c] w fun e w' => e = .returned (.bool true) ∧ Below w.heap.size w w' := by
  by_cases hin : 0 ≤ n ∧ n ≤ 40000
  · by_cases hc : c < -12000 ∨ 12000 < c
    · exact lawMonths_err n c hin (fun W _ => (months_bad n c (Or.inr hc) W).mono fun e w' ⟨h1, h2⟩ => ⟨h1, h2 ▸ Below.refl _ _⟩) w hT ht
    · obtain ⟨K, k1, k2, k3, k4⟩ := month_K n hin
      by_cases hE : numE (monY K c) (monM K c) (monD n K c) = 0
      · exact lawMonths_ok n c hin (by omega) (by omega) K k1 k2 k3 k4 hE w hT ht
      · have h13 := (numE_mon n c K k3).resolve_left hE
        refine lawMonths_err n c hin (fun W hW => ?_) w hT ht
        have := months_good n c K k1 k3 k4 hin (by omega) (by omega) W hW
        rw [h13] at this
        exact this
  · exact lawMonths_out n c hin w hT ht

end Go.Proofs.YthnipdcdiffioabDoor
