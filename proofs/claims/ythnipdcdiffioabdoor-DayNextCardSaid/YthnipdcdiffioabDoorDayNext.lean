/- The statement on the next day: its walk. -/
import Derived.Test.YthnipdcdiffioabDoorDayDates
namespace Go.Proofs.YthnipdcdiffioabDoor
open Go.RowKit

set_option maxRecDepth 100000 in
set_option maxHeartbeats 4000000 in
theorem lawNext_same (x : Int) (hx0 : 0 ≤ x) (hx1 : x ≤ 65535) (K : Nat) (k1 : K ≤ 1320) (k2 : K < 1315) (k3 : Cal.cum K ≤ x % 40000) (k4 : x % 40000 + 1 < Cal.cum (K + 1)) (w : World) (hT : MTab w) (ht : Tab w) :
    Calls Tryd.prog 5 #[.int .u16 x] w fun e w' => e = .returned (.bool true) ∧ Below w.heap.size w w' := by
  have HT := Lib.hid hT
  obtain ⟨n, Hn⟩ : ∃ n, Hid (n = x % 40000) := ⟨_, Lib.hid rfl⟩
  rw [← Hn.out] at k3 k4
  have n0 : 0 ≤ n := by rw [Hn.out]; omega
  have n1 : n ≤ 39999 := by rw [Hn.out]; omega
  have en : x % 40000 = n := Hn.out.symm
  obtain ⟨a, Ha⟩ : ∃ a, Hid (a = Cal.yr K) := ⟨_, Lib.hid rfl⟩
  obtain ⟨b, Hb⟩ : ∃ a, Hid (a = Cal.mo K) := ⟨_, Lib.hid rfl⟩
  obtain ⟨c, Hc⟩ : ∃ a, Hid (a = n - Cal.cum K + 1) := ⟨_, Lib.hid rfl⟩
  have a0 : 2000 ≤ a := by rw [Ha.out]; unfold Cal.yr; omega
  have a1 : a ≤ 2109 := by rw [Ha.out]; unfold Cal.yr; omega
  have c0 : 1 ≤ c := by rw [Hc.out]; omega
  have hl : Cal.cum (K + 1) = Cal.cum K + Cal.mlen (Cal.yr K) (Cal.mo K) := rfl
  have c1 : c ≤ 31 := by rw [Hc.out]; have := Cal.mlen_bd (Cal.yr K) (Cal.mo K); omega
  have HO1 : Hid (∀ W, MTab W → Calls Tryd.prog 9 #[.int .i64 n] W fun e w' => e = .returned (.tuple #[.agg #[.int .i64 a, .int .i64 b, .int .i64 c], .int .i64 0]) ∧ Below W.heap.size W w') := Lib.hid fun W hW => by rw [Ha.out, Hb.out, Hc.out]; exact of_good n K k1 k3 (by omega) (by omega) W hW
  have HO2 : Hid (∀ W, MTab W → Calls Tryd.prog 9 #[.int .i64 (n + 1)] W fun e w' => e = .returned (.tuple #[.agg #[.int .i64 a, .int .i64 b, .int .i64 (c + 1)], .int .i64 0]) ∧ Below W.heap.size W w') := Lib.hid fun W hW => by
    have := of_good (n + 1) K k1 (by omega) k4 (by omega) W hW
    rw [Ha.out, Hb.out, show c + 1 = n + 1 - Cal.cum K + 1 by rw [Hc.out]; omega]; exact this
  obtain ⟨e1, e2⟩ := num_date (n + 1) K k2 (by omega) k4 (by omega)
  have HN1 : Hid (∀ W, MTab W → Calls Tryd.prog 11 #[.int .i64 a, .int .i64 b, .int .i64 (c + 1)] W fun e w' => e = .returned (.tuple #[.int .i64 (n + 1), .int .i64 0]) ∧ Below W.heap.size W w') := Lib.hid fun W hW => by
    have := number_any a b (c + 1) W hW
    rw [Ha.out, Hb.out, show c + 1 = n + 1 - Cal.cum K + 1 by rw [Hc.out]; omega, e1, e2, if_pos rfl] at this
    rw [Ha.out, Hb.out, show c + 1 = n + 1 - Cal.cum K + 1 by rw [Hc.out]; omega]; exact this
  have e3 : numE (a + 400) b (c + 1) = 13 := by
    unfold numE
    have := Cal.mo_bd K
    rw [Cal.mlen_400, if_neg (by rw [Ha.out, Hb.out, Hc.out]; omega), if_pos (by omega)]
  have HN2 : Hid (∀ W, MTab W → Calls Tryd.prog 11 #[.int .i64 (a + 400), .int .i64 b, .int .i64 (c + 1)] W fun e w' => e = .returned (.tuple #[.int .i64 0, .int .i64 13]) ∧ Below W.heap.size W w') := Lib.hid fun W hW => by
    have := number_any (a + 400) b (c + 1) W hW
    rw [e3] at this
    exact this
  have HH := Lib.hid (dayHead_any w hT ht)
  clear hT ht e1 e2 e3 hl k1 k2 k3 k4
  go_enter Tryd.func5, Tryd.ntmps5
  go_wp2_with fail
  refine HH.out.mono ?_
  rintro e v1 ⟨rfl, hb⟩
  go_wp2_with fail
  try rw [en]
  refine (HO1.out _ (HT.out.below hb)).mono ?_
  rintro e v2 ⟨rfl, h⟩
  replace hb := hb.trans (h.mono hb.size)
  clear h
  go_wp2_with fail
  have K1 := Lib.hid (Cells3.new v2 a b c 24)
  try rw [en]
  refine (HO2.out _ (HT.out.below (hb.alloc hb.size _))).mono ?_
  rintro e v3 ⟨rfl, h⟩
  replace K1 := Lib.hid (K1.out.keep h)
  replace hb := (hb.alloc hb.size _).trans (h.mono (by have := hb.size; simp; omega))
  clear h
  have q0 := K1.out.c0
  have q1 := K1.out.c1
  have q2 := K1.out.c2
  have lt1 := K1.out.lt
  go_wp2_with fail
  have K2 := Lib.hid (Cells3.new v3 a b (c + 1) 24)
  replace K1 := Lib.hid (K1.out.alloc (.cells #[.int .i64 a, .int .i64 b, .int .i64 (c + 1)] 24))
  refine (HN1.out _ (HT.out.below (hb.alloc hb.size _))).mono ?_
  rintro e v4 ⟨rfl, h⟩
  replace K1 := Lib.hid (K1.out.keep h)
  replace K2 := Lib.hid (K2.out.keep h)
  replace hb := (hb.alloc hb.size _).trans (h.mono (by have := hb.size; simp; omega))
  clear h q0 q1 q2 lt1
  have q0 := K1.out.c0
  have q1 := K1.out.c1
  have q2 := K1.out.c2
  go_wp2_with fail
  refine (HN2.out _ (HT.out.below hb)).mono ?_
  rintro e v5 ⟨rfl, h⟩
  replace K1 := Lib.hid (K1.out.keep h)
  replace K2 := Lib.hid (K2.out.keep h)
  replace hb := hb.trans (h.mono hb.size)
  clear h q0 q1 q2
  have q0 := K1.out.c0
  have q1 := K1.out.c1
  have q2 := K1.out.c2
  have r0 := K2.out.c0
  have r1 := K2.out.c1
  have r2 := K2.out.c2
  go_wp2
  go_ret
  exact ⟨rfl, hb⟩

set_option maxRecDepth 100000 in
set_option maxHeartbeats 4000000 in
theorem lawNext_next (x : Int) (hx0 : 0 ≤ x) (hx1 : x ≤ 65535) (K : Nat) (k1 : K < 1320) (k2 : K < 1315) (k3 : Cal.cum K ≤ x % 40000) (k4 : x % 40000 + 1 = Cal.cum (K + 1)) (w : World) (hT : MTab w) (ht : Tab w) :
    Calls Tryd.prog 5 #[.int .u16 x] w fun e w' => e = .returned (.bool true) ∧ Below w.heap.size w w' := by
  have HT := Lib.hid hT
  obtain ⟨n, Hn⟩ : ∃ n, Hid (n = x % 40000) := ⟨_, Lib.hid rfl⟩
  rw [← Hn.out] at k3 k4
  have n0 : 0 ≤ n := by rw [Hn.out]; omega
  have n1 : n ≤ 39999 := by rw [Hn.out]; omega
  have en : x % 40000 = n := Hn.out.symm
  obtain ⟨a, Ha⟩ : ∃ a, Hid (a = Cal.yr K) := ⟨_, Lib.hid rfl⟩
  obtain ⟨b, Hb⟩ : ∃ a, Hid (a = Cal.mo K) := ⟨_, Lib.hid rfl⟩
  obtain ⟨c, Hc⟩ : ∃ a, Hid (a = n - Cal.cum K + 1) := ⟨_, Lib.hid rfl⟩
  obtain ⟨a2, Ha2⟩ : ∃ a, Hid (a = Cal.yr (K + 1)) := ⟨_, Lib.hid rfl⟩
  obtain ⟨b2, Hb2⟩ : ∃ a, Hid (a = Cal.mo (K + 1)) := ⟨_, Lib.hid rfl⟩
  have hnx : (b = 12 ∧ a2 = a + 1 ∧ b2 = 1) ∨ (b ≠ 12 ∧ a2 = a ∧ b2 = b + 1) := by rw [Ha.out, Hb.out, Ha2.out, Hb2.out]; unfold Cal.yr Cal.mo; omega
  have a0 : 2000 ≤ a := by rw [Ha.out]; unfold Cal.yr; omega
  have a1 : a ≤ 2109 := by rw [Ha.out]; unfold Cal.yr; omega
  have b0 : 1 ≤ b := by rw [Hb.out]; exact (Cal.mo_bd K).1
  have b1 : b ≤ 12 := by rw [Hb.out]; exact (Cal.mo_bd K).2
  have c0 : 1 ≤ c := by rw [Hc.out]; omega
  have hl : Cal.cum (K + 1) = Cal.cum K + Cal.mlen (Cal.yr K) (Cal.mo K) := rfl
  have hl2 := Cal.len_bd (K + 1)
  have hl3 : Cal.cum (K + 1 + 1) = Cal.cum (K + 1) + Cal.len (K + 1) := rfl
  have c1 : c ≤ 31 := by rw [Hc.out]; have := Cal.mlen_bd (Cal.yr K) (Cal.mo K); omega
  have HO1 : Hid (∀ W, MTab W → Calls Tryd.prog 9 #[.int .i64 n] W fun e w' => e = .returned (.tuple #[.agg #[.int .i64 a, .int .i64 b, .int .i64 c], .int .i64 0]) ∧ Below W.heap.size W w') := Lib.hid fun W hW => by rw [Ha.out, Hb.out, Hc.out]; exact of_good n K (by omega) k3 (by omega) (by omega) W hW
  have HO2 : Hid (∀ W, MTab W → Calls Tryd.prog 9 #[.int .i64 (n + 1)] W fun e w' => e = .returned (.tuple #[.agg #[.int .i64 a2, .int .i64 b2, .int .i64 1], .int .i64 0]) ∧ Below W.heap.size W w') := Lib.hid fun W hW => by
    have := of_good (n + 1) (K + 1) (by omega) (by omega) (by omega) (by omega) W hW
    rw [show n + 1 - Cal.cum (K + 1) + 1 = 1 by omega] at this
    rw [Ha2.out, Hb2.out]; exact this
  have e1 : numE a b (c + 1) = 1 := by
    unfold numE
    rw [if_pos (by rw [Ha.out, Hb.out, Hc.out]; omega)]
  have e3 : numE (a + 400) b (c + 1) = 1 := by
    unfold numE
    rw [Cal.mlen_400, if_pos (by rw [Ha.out, Hb.out, Hc.out]; omega)]
  have HN1 : Hid (∀ W, MTab W → Calls Tryd.prog 11 #[.int .i64 a, .int .i64 b, .int .i64 (c + 1)] W fun e w' => e = .returned (.tuple #[.int .i64 0, .int .i64 1]) ∧ Below W.heap.size W w') := Lib.hid fun W hW => by
    have := number_any a b (c + 1) W hW
    rw [e1] at this
    exact this
  have HN2 : Hid (∀ W, MTab W → Calls Tryd.prog 11 #[.int .i64 (a + 400), .int .i64 b, .int .i64 (c + 1)] W fun e w' => e = .returned (.tuple #[.int .i64 0, .int .i64 1]) ∧ Below W.heap.size W w') := Lib.hid fun W hW => by
    have := number_any (a + 400) b (c + 1) W hW
    rw [e3] at this
    exact this
  have HH := Lib.hid (dayHead_any w hT ht)
  clear hT ht e1 e3 hl hl2 hl3 k1 k2 k3 k4 Ha2 Hb2
  rcases hnx with ⟨hb12, rfl, rfl⟩ | ⟨hb12, rfl, rfl⟩
  · have hbe : (b == 12) = true := by simp [hb12]
    clear hb12
    go_enter Tryd.func5, Tryd.ntmps5
    go_wp2_with fail
    refine HH.out.mono ?_
    rintro e v1 ⟨rfl, hb⟩
    go_wp2_with fail
    try rw [en]
    refine (HO1.out _ (HT.out.below hb)).mono ?_
    rintro e v2 ⟨rfl, h⟩
    replace hb := hb.trans (h.mono hb.size)
    clear h
    go_wp2_with fail
    have K1 := Lib.hid (Cells3.new v2 a b c 24)
    try rw [en]
    refine (HO2.out _ (HT.out.below (hb.alloc hb.size _))).mono ?_
    rintro e v3 ⟨rfl, h⟩
    replace K1 := Lib.hid (K1.out.keep h)
    replace hb := (hb.alloc hb.size _).trans (h.mono (by have := hb.size; simp; omega))
    clear h
    have q0 := K1.out.c0
    have q1 := K1.out.c1
    have q2 := K1.out.c2
    have lt1 := K1.out.lt
    go_wp2_with fail
    have K2 := Lib.hid (Cells3.new v3 (a + 1) 1 1 24)
    replace K1 := Lib.hid (K1.out.alloc (.cells #[.int .i64 (a + 1), .int .i64 1, .int .i64 1] 24))
    refine (HN1.out _ (HT.out.below (hb.alloc hb.size _))).mono ?_
    rintro e v4 ⟨rfl, h⟩
    replace K1 := Lib.hid (K1.out.keep h)
    replace K2 := Lib.hid (K2.out.keep h)
    replace hb := (hb.alloc hb.size _).trans (h.mono (by have := hb.size; simp; omega))
    clear h q0 q1 q2 lt1
    have q0 := K1.out.c0
    have q1 := K1.out.c1
    have q2 := K1.out.c2
    go_wp2_with fail
    refine (HN2.out _ (HT.out.below hb)).mono ?_
    rintro e v5 ⟨rfl, h⟩
    replace K1 := Lib.hid (K1.out.keep h)
    replace K2 := Lib.hid (K2.out.keep h)
    replace hb := hb.trans (h.mono hb.size)
    clear h q0 q1 q2
    have q0 := K1.out.c0
    have q1 := K1.out.c1
    have q2 := K1.out.c2
    have q9 := K1.out.lt
    have r0 := K2.out.c0
    have r1 := K2.out.c1
    have r2 := K2.out.c2
    have r9 := K2.out.lt
    go_wp2
    go_ret
    exact ⟨rfl, hb.alloc hb.size _⟩
  · have hbe : (b == 12) = false := by simp [hb12]
    go_enter Tryd.func5, Tryd.ntmps5
    go_wp2_with fail
    refine HH.out.mono ?_
    rintro e v1 ⟨rfl, hb⟩
    go_wp2_with fail
    try rw [en]
    refine (HO1.out _ (HT.out.below hb)).mono ?_
    rintro e v2 ⟨rfl, h⟩
    replace hb := hb.trans (h.mono hb.size)
    clear h
    go_wp2_with fail
    have K1 := Lib.hid (Cells3.new v2 a2 b c 24)
    try rw [en]
    refine (HO2.out _ (HT.out.below (hb.alloc hb.size _))).mono ?_
    rintro e v3 ⟨rfl, h⟩
    replace K1 := Lib.hid (K1.out.keep h)
    replace hb := (hb.alloc hb.size _).trans (h.mono (by have := hb.size; simp; omega))
    clear h
    have q0 := K1.out.c0
    have q1 := K1.out.c1
    have q2 := K1.out.c2
    have lt1 := K1.out.lt
    go_wp2_with fail
    have K2 := Lib.hid (Cells3.new v3 a2 (b + 1) 1 24)
    replace K1 := Lib.hid (K1.out.alloc (.cells #[.int .i64 a2, .int .i64 (b + 1), .int .i64 1] 24))
    refine (HN1.out _ (HT.out.below (hb.alloc hb.size _))).mono ?_
    rintro e v4 ⟨rfl, h⟩
    replace K1 := Lib.hid (K1.out.keep h)
    replace K2 := Lib.hid (K2.out.keep h)
    replace hb := (hb.alloc hb.size _).trans (h.mono (by have := hb.size; simp; omega))
    clear h q0 q1 q2 lt1
    have q0 := K1.out.c0
    have q1 := K1.out.c1
    have q2 := K1.out.c2
    go_wp2_with fail
    refine (HN2.out _ (HT.out.below hb)).mono ?_
    rintro e v5 ⟨rfl, h⟩
    replace K1 := Lib.hid (K1.out.keep h)
    replace K2 := Lib.hid (K2.out.keep h)
    replace hb := hb.trans (h.mono hb.size)
    clear h q0 q1 q2
    have q0 := K1.out.c0
    have q1 := K1.out.c1
    have q2 := K1.out.c2
    have q9 := K1.out.lt
    have r0 := K2.out.c0
    have r1 := K2.out.c1
    have r2 := K2.out.c2
    have r9 := K2.out.lt
    go_wp2
    go_ret
    exact ⟨rfl, hb.alloc hb.size _⟩

theorem lawNext_any (x : Int) (hx0 : 0 ≤ x) (hx1 : x ≤ 65535) (w : World) (hT : MTab w) (ht : Tab w) :
    Calls Tryd.prog 5 #[.int .u16 x] w fun e w' => e = .returned (.bool true) ∧ Below w.heap.size w w' := by
  obtain ⟨K, k1, k2, k3, k4⟩ := month_K (x % 40000) (by omega)
  by_cases h : x % 40000 + 1 < Cal.cum (K + 1)
  · exact lawNext_same x hx0 hx1 K k1 k2 k3 h w hT ht
  · exact lawNext_next x hx0 hx1 K (by omega) k2 k3 (by omega) w hT ht

end Go.Proofs.YthnipdcdiffioabDoor
