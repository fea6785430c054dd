/- The statement on days and dates: its walk. -/
import Derived.Test.YthnipdcdiffioabDoorDayHead
namespace Go.Proofs.YthnipdcdiffioabDoor
open Go.RowKit

theorem month_K (n : Int) (h : 0 ≤ n ∧ n ≤ 40000) : ∃ K, K ≤ 1320 ∧ K < 1315 ∧ Cal.cum K ≤ n ∧ n < Cal.cum (K + 1) := by
  obtain ⟨j, h1, h2, h3⟩ := Cal.month_of n h.1 1315 (by have := Cal.cum_last; omega)
  exact ⟨j, by omega, h1, h2, h3⟩
/-- The day of a day's date. -/
theorem num_date (n : Int) (K : Nat) (hK : K < 1315) (h1 : Cal.cum K ≤ n) (h2 : n < Cal.cum (K + 1)) (h : 0 ≤ n ∧ n ≤ 40000) :
    numE (Cal.yr K) (Cal.mo K) (n - Cal.cum K + 1) = 0 ∧ numV (Cal.yr K) (Cal.mo K) (n - Cal.cum K + 1) = n := by
  have hi : (12 * (Cal.yr K - 2000) + (Cal.mo K - 1)).toNat = K := by unfold Cal.yr Cal.mo; omega
  have hv : numV (Cal.yr K) (Cal.mo K) (n - Cal.cum K + 1) = n := by unfold numV; rw [hi]; omega
  refine ⟨?_, hv⟩
  have hl : Cal.cum (K + 1) = Cal.cum K + Cal.mlen (Cal.yr K) (Cal.mo K) := rfl
  have hm := Cal.mo_bd K
  unfold numE
  rw [hv, if_neg (by omega), if_neg (by unfold Cal.yr; omega), if_pos h.2]
/-- The date of a date's day. -/
theorem date_num (y m d : Int) (h : numE y m d = 0) : ∃ K, K ≤ 1320 ∧ Cal.cum K ≤ numV y m d ∧ numV y m d < Cal.cum (K + 1) ∧ (0 ≤ numV y m d ∧ numV y m d ≤ 40000) ∧ Cal.yr K = y ∧ Cal.mo K = m ∧ numV y m d - Cal.cum K + 1 = d := by
  unfold numE at h
  by_cases hb : m < 1 ∨ 12 < m ∨ d < 1 ∨ Cal.mlen y m < d
  · rw [if_pos hb] at h; omega
  · rw [if_neg hb] at h
    by_cases hy : y < 2000 ∨ 2109 < y
    · rw [if_pos hy] at h; omega
    · rw [if_neg hy] at h
      by_cases hv : numV y m d ≤ 40000
      · obtain ⟨e1, e2⟩ := Cal.yr_mo (y := y) (m := m) (by omega) (by omega) (by omega)
        refine ⟨(12 * (y - 2000) + (m - 1)).toNat, by omega, ?_, ?_, ⟨?_, hv⟩, e1, e2, ?_⟩
        · unfold numV; omega
        · have hl : Cal.cum ((12 * (y - 2000) + (m - 1)).toNat + 1) = Cal.cum (12 * (y - 2000) + (m - 1)).toNat + Cal.mlen (Cal.yr (12 * (y - 2000) + (m - 1)).toNat) (Cal.mo (12 * (y - 2000) + (m - 1)).toNat) := rfl
          rw [hl, e1, e2]; unfold numV; omega
        · unfold numV; have := Cal.cum_nonneg (12 * (y - 2000) + (m - 1)).toNat; omega
        · unfold numV; omega
      · rw [if_neg hv] at h; omega
theorem numE_val (y m d : Int) : numE y m d = 0 ∨ numE y m d = 1 ∨ numE y m d = 13 := by
  unfold numE
  split
  · omega
  · split
    · omega
    · split <;> omega


set_option maxRecDepth 100000 in
set_option maxHeartbeats 4000000 in
theorem lawDates_inYes (n y m d : Int) (hin : (0 ≤ n ∧ n ≤ 40000)) (hg : numE y m d = 0) (w : World) (hT : MTab w) (ht : Tab w) :
    Calls Tryd.prog 4 #[.int .i64 n, .int .i64 y, .int .i64 m, .int .i64 d] w fun e w' => e = .returned (.bool true) ∧ Below w.heap.size w w' := by
  have HT := Lib.hid hT
  obtain ⟨K, k1, k2, k3, k4⟩ := month_K n hin
  obtain ⟨n1, n2⟩ := num_date n K k2 k3 k4 hin
  obtain ⟨a, Ha⟩ : ∃ a, Hid (a = Cal.yr K) := ⟨_, Lib.hid rfl⟩
  obtain ⟨b, Hb⟩ : ∃ a, Hid (a = Cal.mo K) := ⟨_, Lib.hid rfl⟩
  obtain ⟨c, Hc⟩ : ∃ a, Hid (a = n - Cal.cum K + 1) := ⟨_, Lib.hid rfl⟩
  have HO : Hid (∀ W, MTab W → Calls Tryd.prog 9 #[.int .i64 n] W fun e w' => e = .returned (.tuple #[.agg #[.int .i64 a, .int .i64 b, .int .i64 c], .int .i64 0]) ∧ Below W.heap.size W w') := Lib.hid fun W hW => by rw [Ha.out, Hb.out, Hc.out]; exact of_good n K k1 k3 k4 hin W hW
  have HN : Hid (∀ W, MTab W → Calls Tryd.prog 11 #[.int .i64 a, .int .i64 b, .int .i64 c] W fun e w' => e = .returned (.tuple #[.int .i64 n, .int .i64 0]) ∧ Below W.heap.size W w') := Lib.hid fun W hW => by
    have := number_any a b c W hW
    rw [Ha.out, Hb.out, Hc.out, n1, n2, if_pos rfl] at this
    rw [Ha.out, Hb.out, Hc.out]; exact this
  have b0 : 1 ≤ b := by rw [Hb.out]; exact (Cal.mo_bd K).1
  have b1 : b ≤ 12 := by rw [Hb.out]; exact (Cal.mo_bd K).2
  have c0 : 1 ≤ c := by rw [Hc.out]; omega
  have c1 : c ≤ 31 := by rw [Hc.out]; have := Cal.len_bd K; have e : Cal.cum (K + 1) = Cal.cum K + Cal.len K := rfl; omega
  have n0 : 0 ≤ n := hin.1
  have n9 : n ≤ 40000 := hin.2
  obtain ⟨L, l1, l2, l3, l4, l5, l6, l7⟩ := date_num y m d hg
  obtain ⟨r, Hr⟩ : ∃ r, Hid (r = numV y m d) := ⟨_, Lib.hid rfl⟩
  have HM : Hid (∀ W, MTab W → Calls Tryd.prog 11 #[.int .i64 y, .int .i64 m, .int .i64 d] W fun e w' => e = .returned (.tuple #[.int .i64 r, .int .i64 0]) ∧ Below W.heap.size W w') := Lib.hid fun W hW => by
    have := number_any y m d W hW
    rw [hg, if_pos rfl, ← Hr.out] at this
    exact this
  have HX : Hid (∀ W, MTab W → Calls Tryd.prog 9 #[.int .i64 r] W fun e w' => e = .returned (.tuple #[.agg #[.int .i64 y, .int .i64 m, .int .i64 d], .int .i64 0]) ∧ Below W.heap.size W w') := Lib.hid fun W hW => by
    have := of_good (numV y m d) L l1 l2 l3 l4 W hW
    rw [l5, l6, l7, ← Hr.out] at this
    exact this
  have HH := Lib.hid (dayHead_any w hT ht)
  clear hT ht hin k1 k2 k3 k4 n1 n2 hg l1 l2 l3 l4 l5 l6 l7
  go_enter Tryd.func4, Tryd.ntmps4
  go_wp2_with fail
  refine HH.out.mono ?_
  rintro e v1 ⟨rfl, hb⟩
  go_wp2_with fail
  refine (HO.out _ (HT.out.below hb)).mono ?_
  rintro e v2 ⟨rfl, h⟩
  replace hb := hb.trans (h.mono hb.size)
  clear h
  go_wp2_with fail
  have K2 := Lib.hid (Cells3.new v2 a b c 24)
  refine (HN.out _ (HT.out.below (hb.alloc hb.size _))).mono ?_
  rintro e v3 ⟨rfl, h⟩
  replace K2 := Lib.hid (K2.out.keep h)
  replace hb := (hb.alloc hb.size _).trans (h.mono (by have := hb.size; simp; omega))
  clear h
  have q0 := K2.out.c0
  have q1 := K2.out.c1
  have q2 := K2.out.c2
  go_wp2_with fail
  refine (HM.out _ (HT.out.below hb)).mono ?_
  rintro e v4 ⟨rfl, h⟩
  replace K2 := Lib.hid (K2.out.keep h)
  replace hb := hb.trans (h.mono hb.size)
  clear h q0 q1 q2
  go_wp2_with fail
  refine (HX.out _ (HT.out.below hb)).mono ?_
  rintro e v5 ⟨rfl, h⟩
  replace hb := hb.trans (h.mono hb.size)
  clear h
  go_wp2
  go_ret
  exact ⟨rfl, hb.alloc hb.size _⟩

set_option maxRecDepth 100000 in
set_option maxHeartbeats 4000000 in
theorem lawDates_inNo (n y m d : Int) (hin : (0 ≤ n ∧ n ≤ 40000)) (hg : ¬ numE y m d = 0) (w : World) (hT : MTab w) (ht : Tab w) :
    Calls Tryd.prog 4 #[.int .i64 n, .int .i64 y, .int .i64 m, .int .i64 d] w fun e w' => e = .returned (.bool true) ∧ Below w.heap.size w w' := by
  have HT := Lib.hid hT
  obtain ⟨K, k1, k2, k3, k4⟩ := month_K n hin
  obtain ⟨n1, n2⟩ := num_date n K k2 k3 k4 hin
  obtain ⟨a, Ha⟩ : ∃ a, Hid (a = Cal.yr K) := ⟨_, Lib.hid rfl⟩
  obtain ⟨b, Hb⟩ : ∃ a, Hid (a = Cal.mo K) := ⟨_, Lib.hid rfl⟩
  obtain ⟨c, Hc⟩ : ∃ a, Hid (a = n - Cal.cum K + 1) := ⟨_, Lib.hid rfl⟩
  have HO : Hid (∀ W, MTab W → Calls Tryd.prog 9 #[.int .i64 n] W fun e w' => e = .returned (.tuple #[.agg #[.int .i64 a, .int .i64 b, .int .i64 c], .int .i64 0]) ∧ Below W.heap.size W w') := Lib.hid fun W hW => by rw [Ha.out, Hb.out, Hc.out]; exact of_good n K k1 k3 k4 hin W hW
  have HN : Hid (∀ W, MTab W → Calls Tryd.prog 11 #[.int .i64 a, .int .i64 b, .int .i64 c] W fun e w' => e = .returned (.tuple #[.int .i64 n, .int .i64 0]) ∧ Below W.heap.size W w') := Lib.hid fun W hW => by
    have := number_any a b c W hW
    rw [Ha.out, Hb.out, Hc.out, n1, n2, if_pos rfl] at this
    rw [Ha.out, Hb.out, Hc.out]; exact this
  have b0 : 1 ≤ b := by rw [Hb.out]; exact (Cal.mo_bd K).1
  have b1 : b ≤ 12 := by rw [Hb.out]; exact (Cal.mo_bd K).2
  have c0 : 1 ≤ c := by rw [Hc.out]; omega
  have c1 : c ≤ 31 := by rw [Hc.out]; have := Cal.len_bd K; have e : Cal.cum (K + 1) = Cal.cum K + Cal.len K := rfl; omega
  have n0 : 0 ≤ n := hin.1
  have n9 : n ≤ 40000 := hin.2
  obtain ⟨E, HE⟩ : ∃ r, Hid (r = numE y m d) := ⟨_, Lib.hid rfl⟩
  have hE : (E != 0) = true := by rw [HE.out]; simpa using hg
  have HM : Hid (∀ W, MTab W → Calls Tryd.prog 11 #[.int .i64 y, .int .i64 m, .int .i64 d] W fun e w' => e = .returned (.tuple #[.int .i64 0, .int .i64 E]) ∧ Below W.heap.size W w') := Lib.hid fun W hW => by
    have := number_any y m d W hW
    rw [if_neg hg, ← HE.out] at this
    exact this
  have HH := Lib.hid (dayHead_any w hT ht)
  clear hT ht hin k1 k2 k3 k4 n1 n2 hg
  go_enter Tryd.func4, Tryd.ntmps4
  go_wp2_with fail
  refine HH.out.mono ?_
  rintro e v1 ⟨rfl, hb⟩
  go_wp2_with fail
  refine (HO.out _ (HT.out.below hb)).mono ?_
  rintro e v2 ⟨rfl, h⟩
  replace hb := hb.trans (h.mono hb.size)
  clear h
  go_wp2_with fail
  have K2 := Lib.hid (Cells3.new v2 a b c 24)
  refine (HN.out _ (HT.out.below (hb.alloc hb.size _))).mono ?_
  rintro e v3 ⟨rfl, h⟩
  replace K2 := Lib.hid (K2.out.keep h)
  replace hb := (hb.alloc hb.size _).trans (h.mono (by have := hb.size; simp; omega))
  clear h
  have q0 := K2.out.c0
  have q1 := K2.out.c1
  have q2 := K2.out.c2
  go_wp2_with fail
  refine (HM.out _ (HT.out.below hb)).mono ?_
  rintro e v4 ⟨rfl, h⟩
  replace K2 := Lib.hid (K2.out.keep h)
  replace hb := hb.trans (h.mono hb.size)
  clear h q0 q1 q2
  have q0 := K2.out.c0
  have q1 := K2.out.c1
  have q2 := K2.out.c2
  go_wp2
  go_ret
  exact ⟨rfl, hb⟩

set_option maxRecDepth 100000 in
set_option maxHeartbeats 4000000 in
theorem lawDates_outYes (n y m d : Int) (hin : ¬ (0 ≤ n ∧ n ≤ 40000)) (hg : numE y m d = 0) (w : World) (hT : MTab w) (ht : Tab w) :
    Calls Tryd.prog 4 #[.int .i64 n, .int .i64 y, .int .i64 m, .int .i64 d] w fun e w' => e = .returned (.bool true) ∧ Below w.heap.size w w' := by
  have HT := Lib.hid hT
  have HO : Hid (∀ W, MTab W → Calls Tryd.prog 9 #[.int .i64 n] W fun e w' => e = .returned (.tuple #[.agg #[.int .i64 0, .int .i64 0, .int .i64 0], .int .i64 13]) ∧ Below W.heap.size W w') := Lib.hid fun W _ => of_bad n hin W
  obtain ⟨L, l1, l2, l3, l4, l5, l6, l7⟩ := date_num y m d hg
  obtain ⟨r, Hr⟩ : ∃ r, Hid (r = numV y m d) := ⟨_, Lib.hid rfl⟩
  have HM : Hid (∀ W, MTab W → Calls Tryd.prog 11 #[.int .i64 y, .int .i64 m, .int .i64 d] W fun e w' => e = .returned (.tuple #[.int .i64 r, .int .i64 0]) ∧ Below W.heap.size W w') := Lib.hid fun W hW => by
    have := number_any y m d W hW
    rw [hg, if_pos rfl, ← Hr.out] at this
    exact this
  have HX : Hid (∀ W, MTab W → Calls Tryd.prog 9 #[.int .i64 r] W fun e w' => e = .returned (.tuple #[.agg #[.int .i64 y, .int .i64 m, .int .i64 d], .int .i64 0]) ∧ Below W.heap.size W w') := Lib.hid fun W hW => by
    have := of_good (numV y m d) L l1 l2 l3 l4 W hW
    rw [l5, l6, l7, ← Hr.out] at this
    exact this
  have HH := Lib.hid (dayHead_any w hT ht)
  have ho : n < 0 ∨ (¬ n < 0 ∧ 40000 < n) := by omega
  clear hT ht hin hg l1 l2 l3 l4 l5 l6 l7
  rcases ho with ho | ⟨ho1, ho2⟩
  all_goals
    go_enter Tryd.func4, Tryd.ntmps4
    go_wp2_with fail
    refine HH.out.mono ?_
    rintro e v1 ⟨rfl, hb⟩
    go_wp2_with fail
    refine (HO.out _ (HT.out.below hb)).mono ?_
    rintro e v2 ⟨rfl, h⟩
    replace hb := hb.trans (h.mono hb.size)
    clear h
    go_wp2_with fail
    have K2 := Lib.hid (Cells3.new v2 0 0 0 24)
    refine (HM.out _ (HT.out.below (hb.alloc hb.size _))).mono ?_
    rintro e v4 ⟨rfl, h⟩
    replace K2 := Lib.hid (K2.out.keep h)
    replace hb := (hb.alloc hb.size _).trans (h.mono (by have := hb.size; simp; omega))
    clear h
    go_wp2_with fail
    refine (HX.out _ (HT.out.below hb)).mono ?_
    rintro e v5 ⟨rfl, h⟩
    replace hb := hb.trans (h.mono hb.size)
    clear h
    go_wp2
    go_ret
    exact ⟨rfl, hb.alloc hb.size _⟩

set_option maxRecDepth 100000 in
set_option maxHeartbeats 4000000 in
theorem lawDates_outNo (n y m d : Int) (hin : ¬ (0 ≤ n ∧ n ≤ 40000)) (hg : ¬ numE y m d = 0) (w : World) (hT : MTab w) (ht : Tab w) :
    Calls Tryd.prog 4 #[.int .i64 n, .int .i64 y, .int .i64 m, .int .i64 d] w fun e w' => e = .returned (.bool true) ∧ Below w.heap.size w w' := by
  have HT := Lib.hid hT
  have HO : Hid (∀ W, MTab W → Calls Tryd.prog 9 #[.int .i64 n] W fun e w' => e = .returned (.tuple #[.agg #[.int .i64 0, .int .i64 0, .int .i64 0], .int .i64 13]) ∧ Below W.heap.size W w') := Lib.hid fun W _ => of_bad n hin W
  obtain ⟨E, HE⟩ : ∃ r, Hid (r = numE y m d) := ⟨_, Lib.hid rfl⟩
  have hE : (E != 0) = true := by rw [HE.out]; simpa using hg
  have HM : Hid (∀ W, MTab W → Calls Tryd.prog 11 #[.int .i64 y, .int .i64 m, .int .i64 d] W fun e w' => e = .returned (.tuple #[.int .i64 0, .int .i64 E]) ∧ Below W.heap.size W w') := Lib.hid fun W hW => by
    have := number_any y m d W hW
    rw [if_neg hg, ← HE.out] at this
    exact this
  have HH := Lib.hid (dayHead_any w hT ht)
  have ho : n < 0 ∨ (¬ n < 0 ∧ 40000 < n) := by omega
  clear hT ht hin hg
  rcases ho with ho | ⟨ho1, ho2⟩
  all_goals
    go_enter Tryd.func4, Tryd.ntmps4
    go_wp2_with fail
    refine HH.out.mono ?_
    rintro e v1 ⟨rfl, hb⟩
    go_wp2_with fail
    refine (HO.out _ (HT.out.below hb)).mono ?_
    rintro e v2 ⟨rfl, h⟩
    replace hb := hb.trans (h.mono hb.size)
    clear h
    go_wp2_with fail
    have K2 := Lib.hid (Cells3.new v2 0 0 0 24)
    refine (HM.out _ (HT.out.below (hb.alloc hb.size _))).mono ?_
    rintro e v4 ⟨rfl, h⟩
    replace K2 := Lib.hid (K2.out.keep h)
    replace hb := (hb.alloc hb.size _).trans (h.mono (by have := hb.size; simp; omega))
    clear h
    have q0 := K2.out.c0
    have q1 := K2.out.c1
    have q2 := K2.out.c2
    go_wp2
    go_ret
    exact ⟨rfl, hb⟩

theorem lawDates_any (n y m d : Int) (w : World) (hT : MTab w) (ht : Tab w) :
    Calls Tryd.prog 4 #[.int .i64 n, .int .i64 y, .int .i64 m, .int .i64 d] w fun e w' => e = .returned (.bool true) ∧ Below w.heap.size w w' := by
  by_cases h : 0 ≤ n ∧ n ≤ 40000 <;> by_cases hg : numE y m d = 0
  · exact lawDates_inYes n y m d h hg w hT ht
  · exact lawDates_inNo n y m d h hg w hT ht
  · exact lawDates_outYes n y m d h hg w hT ht
  · exact lawDates_outNo n y m d h hg w hT ht

end Go.Proofs.YthnipdcdiffioabDoor
