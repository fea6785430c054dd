/- The walks of package day: the counter of days, and the date of a day. -/
import Derived.Test.YthnipdcdiffioabDoorDayWalksA
import Derived.StillTailTactics
namespace Go.Proofs.YthnipdcdiffioabDoor
open Go.RowKit

set_option maxHeartbeats 1000000 in
theorem counter_any (w : World) :
    Calls Tryd.prog 23 #[] w fun e w' => e = .returned (.func (.func 34) #[] #[.pointer (some ⟨w.heap.size, 0, none⟩)]) ∧ w' = w.alloc (.cells #[.int .i64 0] 3) := by
  go_enter Tryd.func23, Tryd.ntmps23
  go_wp2
  go_ret
  exact ⟨rfl, rfl⟩

set_option maxHeartbeats 1000000 in
theorem count_any (y m c : Int) (h1 : 1 ≤ m) (h2 : m ≤ 12) (hc0 : 0 ≤ c) (hc1 : c ≤ 100000) (b : Nat) (w : World) (hT : MTab w) (hc : w.cell? ⟨b, 0, none⟩ = some (.int .i64 c)) (hf : w.frozen? ⟨b, 0, none⟩ = false) :
    Calls Tryd.prog 34 #[.int .i64 y, .int .i64 m, .pointer (some ⟨b, 0, none⟩)] w fun e w' => e = .returned (.int .i64 c) ∧ w' = (w.setCell ⟨b, 0, none⟩ (.int .i64 (c + Cal.mlen y m))).drew := by
  have hl := Cal.mlen_bd y m
  obtain ⟨l, Hl⟩ : ∃ l, Hid (l = Cal.mlen y m) := ⟨_, Lib.hid rfl⟩
  have Hlen : Hid (∀ W, MTab W → Calls Tryd.prog 22 #[.int .i64 y, .int .i64 m] W fun e w' => e = .returned (.int .i64 l) ∧ W = w') := Lib.hid fun W h => by rw [Hl.out]; exact length_any y m h1 h2 W h
  rw [← Hl.out] at hl ⊢
  obtain ⟨hl1, hl2⟩ := hl
  have HT := Lib.hid hT
  clear hT
  go_enter Tryd.func34, Tryd.ntmps34
  go_wp2_with fail
  go_still_tail 5, (by kernel_rfl)
  still_call (still_of (Hlen.out _ (HT.out.below ((Below.refl _ _).drew))))
  repeat still_step
  refine wpStill_nil ?_
  go_wp2
  go_ret
  exact ⟨rfl, rfl⟩

/-- What the search for the month keeps of the world. -/
structure DayRun (w : World) (B : Nat) (c : Int) (wr : World) : Prop where
  cell : wr.cell? ⟨B + 1, 0, none⟩ = some (.int .i64 c)
  fr : wr.frozen? ⟨B + 1, 0, none⟩ = false
  r0 : wr.cell? ⟨B, 0, none⟩ = some (.int .i64 0)
  r1 : wr.cell? ⟨B, 1, none⟩ = some (.int .i64 0)
  r2 : wr.cell? ⟨B, 2, none⟩ = some (.int .i64 0)
  f0 : wr.frozen? ⟨B, 0, none⟩ = false
  f1 : wr.frozen? ⟨B, 1, none⟩ = false
  f2 : wr.frozen? ⟨B, 2, none⟩ = false
  below : Below B w wr
theorem DayRun.next {w : World} {B : Nat} {c d : Int} {wr : World} (h : DayRun w B c wr) : DayRun w B d (wr.setCell ⟨B + 1, 0, none⟩ (.int .i64 d)).drew := by
  refine ⟨?_, ?_, ?_, ?_, ?_, ?_, ?_, ?_, (h.below.setCell (by show B ≤ B + 1; omega) _).drew⟩
  · rw [World.cell?_drew, World.cell?_setCell_same _ _ _ h.cell]
  · rw [World.frozen?_drew, World.frozen?_setCell]; exact h.fr
  · rw [World.cell?_drew, World.cell?_setCell_other _ _ _ _ (by simp)]; exact h.r0
  · rw [World.cell?_drew, World.cell?_setCell_other _ _ _ _ (by simp)]; exact h.r1
  · rw [World.cell?_drew, World.cell?_setCell_other _ _ _ _ (by simp)]; exact h.r2
  · rw [World.frozen?_drew, World.frozen?_setCell]; exact h.f0
  · rw [World.frozen?_drew, World.frozen?_setCell]; exact h.f1
  · rw [World.frozen?_drew, World.frozen?_setCell]; exact h.f2

set_option maxHeartbeats 4000000 in
theorem dateOf_any (n : Int) (K : Nat) (hK : K ≤ 1320) (h1 : Cal.cum K ≤ n) (h2 : n < Cal.cum (K + 1)) (w : World) (hT : MTab w) :
    Calls Tryd.prog 26 #[.int .i64 n] w fun e w' => e = .returned (.agg #[.int .i64 (Cal.yr K), .int .i64 (Cal.mo K), .int .i64 (n - Cal.cum K + 1)]) ∧ Below w.heap.size w w' := by
  have HT := Lib.hid hT
  have H1 := Lib.hid h1
  have H2 := Lib.hid h2
  obtain ⟨B, HB⟩ : ∃ B, Hid (B = w.heap.size) := ⟨_, Lib.hid rfl⟩
  have nb0 : 0 ≤ n := Int.le_trans (Cal.cum_nonneg K) h1
  have nb1 : n ≤ 50000 := by have := Cal.cum_le (K + 1); omega
  clear hT h1 h2
  go_enter Tryd.func26, Tryd.ntmps26
  go_wp2_with (go_at_call 23; refine (counter_any _).mono ?_; rintro e w' ⟨rfl, rfl⟩)
  go_loopw [4] (fun y wr => ∃ a : Nat, y = .int .i64 (2000 + (a : Int)) ∧ 12 * a ≤ K ∧ DayRun w w.heap.size (Cal.cum (12 * a)) wr) (fun y _ => 3000 - (intOf y).toNat)
  case atStart =>
    refine ⟨0, by simp, by omega, ?_, ?_, ?_, ?_, ?_, ?_, ?_, ?_, ((Below.refl _ _).alloc (Nat.le_refl _) _).alloc (by simp) _⟩ <;> simp [cell_alloc, frozen_alloc, Cal.cum]
  case round =>
    obtain ⟨a, rfl, ha, R⟩ := hrel
    go_wp2_with fail
    obtain ⟨wo, rfl⟩ : ∃ wo : World, wo = wr := ⟨_, rfl⟩
    go_loopw [5] (fun m wr => ∃ b : Nat, m = .int .i64 ((b : Int) + 1) ∧ b ≤ 12 ∧ 12 * a + b ≤ K ∧ DayRun w w.heap.size (Cal.cum (12 * a + b)) wr) (fun m _ => 14 - (intOf m).toNat)
    case atStart => exact ⟨0, by simp, by omega, by omega, R⟩
    case round =>
      clear R
      obtain ⟨b, rfl, hb, hk, R⟩ := hrel
      by_cases hlt : b < 12
      · obtain ⟨y1, y2⟩ := Cal.yr_at a b hlt
        have Hy1 := Lib.hid y1
        have Hy2 := Lib.hid y2
        clear y1 y2
        obtain ⟨c, Hc⟩ : ∃ c, Hid (c = Cal.cum (12 * a + b)) := ⟨_, Lib.hid rfl⟩
        obtain ⟨l, Hl⟩ : ∃ c, Hid (c = Cal.len (12 * a + b)) := ⟨_, Lib.hid rfl⟩
        have hc0 : 0 ≤ c := by rw [Hc.out]; exact Cal.cum_nonneg _
        have hc1 : c ≤ 50000 := by rw [Hc.out]; have := Cal.cum_le (12 * a + b); omega
        have hl0 : 28 ≤ l := by rw [Hl.out]; exact (Cal.len_bd _).1
        have hl1 : l ≤ 31 := by rw [Hl.out]; exact (Cal.len_bd _).2
        have Hml : Hid (Cal.mlen (2000 + (a : Int)) ((b : Int) + 1) = l) := by rw [Hl.out, ← Hy1.out, ← Hy2.out]; exact Lib.hid rfl
        have Hcs : Hid (Cal.cum (12 * a + b + 1) = c + l) := by rw [Hc.out, Hl.out]; exact Lib.hid rfl
        rw [← Hc.out] at R
        have htab := HT.out.below R.below
        have HR := Lib.hid R
        have rc := R.cell
        have rf := R.fr
        have HC : Hid (Calls Tryd.prog 34 #[.int .i64 (2000 + (a : Int)), .int .i64 ((b : Int) + 1), .pointer (some ⟨w.heap.size + 1, 0, none⟩)] wr fun e w' => e = .returned (.int .i64 c) ∧ w' = (wr.setCell ⟨w.heap.size + 1, 0, none⟩ (.int .i64 (c + l))).drew) := by
          have := count_any (2000 + (a : Int)) ((b : Int) + 1) c (by omega) (by omega) hc0 (by omega) (w.heap.size + 1) wr htab rc rf
          rw [Hml.out] at this
          exact Lib.hid this
        have R2 : DayRun w w.heap.size (c + l) (wr.setCell ⟨w.heap.size + 1, 0, none⟩ (.int .i64 (c + l))).drew := R.next
        have HR2 := Lib.hid R2
        have htab2 := HT.out.below R2.below
        have HL : Hid (Calls Tryd.prog 22 #[.int .i64 (2000 + (a : Int)), .int .i64 ((b : Int) + 1)] (wr.setCell ⟨w.heap.size + 1, 0, none⟩ (.int .i64 (c + l))).drew fun e w' => e = .returned (.int .i64 l) ∧ (wr.setCell ⟨w.heap.size + 1, 0, none⟩ (.int .i64 (c + l))).drew = w') := by
          have := length_any (2000 + (a : Int)) ((b : Int) + 1) (by omega) (by omega) _ htab2
          rw [Hml.out] at this
          exact Lib.hid this
        have z0 := R.r0
        have z1 := R.r1
        have z2 := R.r2
        have g0 := R.f0
        have g1 := R.f1
        have g2 := R.f2
        clear R R2 htab htab2 rc rf
        by_cases hin : n < c + l
        · have Hek : Hid (12 * a + b = K) := by
            refine Lib.hid (Cal.month_unique (n := n) ?_ ?_ H1.out H2.out)
            · exact Int.le_trans (Cal.cum_mono hk) H1.out
            · rw [Hcs.out]; exact hin
          have hcn : c ≤ n := by rw [Hc.out, Hek.out]; exact H1.out
          go_wp2_with fail
          refine HC.out.mono ?_
          rintro e w' ⟨rfl, rfl⟩
          go_wp2_with fail
          refine HL.out.mono ?_
          rintro e _ ⟨rfl, rfl⟩
          go_wp2
          refine bodyPost_ret (v := .agg #[.int .i64 (2000 + (a : Int)), .int .i64 ((b : Int) + 1), .int .i64 (n - c + 1)]) (by simp [results, Tryd.results26, go_sem, z0, z1, z2]) rfl ⟨?_, ?_⟩
          · rw [← Hek.out, Hy1.out, Hy2.out, ← Hc.out]
          · exact ((((HR.out.below.setCell (by show w.heap.size ≤ w.heap.size + 1; omega) _).setCell (Nat.le_refl _) _).setCell (Nat.le_refl _) _).setCell (Nat.le_refl _) _).drew
        · have hkk : 12 * a + (b + 1) ≤ K := by
            rcases Nat.lt_or_ge (12 * a + b) K with h | h
            · omega
            · have : 12 * a + b = K := by omega
              have h2 := H2.out
              rw [← this, Hcs.out] at h2
              omega
          go_wp2_with fail
          refine HC.out.mono ?_
          rintro e w' ⟨rfl, rfl⟩
          go_wp2_with fail
          refine HL.out.mono ?_
          rintro e _ ⟨rfl, rfl⟩
          go_wp2
          go_roundw
          case rel => exact ⟨b + 1, by go_num, by omega, hkk, by rw [← Nat.add_assoc, Hcs.out]; exact HR2.out⟩
          case measure => simp [intOf]; omega
      · obtain rfl : b = 12 := by omega
        go_wp2
        go_roundw
        case rel => exact ⟨a + 1, by go_num, by omega, R⟩
        case measure => simp [intOf]; omega

set_option maxHeartbeats 1000000 in
theorem date_bad (n : Int) (h : ¬ (0 ≤ n ∧ n ≤ 40000)) (w : World) :
    Calls Tryd.prog 19 #[.int .i64 n] w fun e w' => e = .returned (.tuple #[.int .i64 0, .int .i64 0, .int .i64 0, .int .i64 13]) ∧ Below w.heap.size w w' := by
  have hb : (decide (0 ≤ n) && decide (n ≤ 40000)) = false := by
    rw [Bool.and_eq_false_iff]
    by_cases h0 : 0 ≤ n
    · exact Or.inr (decide_eq_false (by omega))
    · exact Or.inl (decide_eq_false h0)
  have Hd : Hid (Calls Tryd.prog 25 #[.int .i64 n] w fun e w' => e = .returned (.bool false) ∧ w = w') := by
    have := isDay_any n w
    rw [hb] at this
    exact Lib.hid this
  clear hb
  go_enter Tryd.func19, Tryd.ntmps19
  go_wp2_with fail
  refine Hd.out.mono ?_
  rintro e _ ⟨rfl, rfl⟩
  go_wp2
  refine bodyPost_ret (v := .tuple #[.int .i64 0, .int .i64 0, .int .i64 0, .int .i64 13]) (by simp [results, Tryd.results19, go_sem]) rfl ⟨rfl, Below.refl _ _⟩

set_option maxHeartbeats 1000000 in
theorem date_good (n : Int) (K : Nat) (hK : K ≤ 1320) (h1 : Cal.cum K ≤ n) (h2 : n < Cal.cum (K + 1)) (h : 0 ≤ n ∧ n ≤ 40000) (w : World) (hT : MTab w) :
    Calls Tryd.prog 19 #[.int .i64 n] w fun e w' => e = .returned (.tuple #[.int .i64 (Cal.yr K), .int .i64 (Cal.mo K), .int .i64 (n - Cal.cum K + 1), .int .i64 0]) ∧ Below w.heap.size w w' := by
  have hb : (decide (0 ≤ n) && decide (n ≤ 40000)) = true := by rw [decide_eq_true h.1, decide_eq_true h.2]; rfl
  have Hd : Hid (Calls Tryd.prog 25 #[.int .i64 n] w fun e w' => e = .returned (.bool true) ∧ w = w') := by
    have := isDay_any n w
    rw [hb] at this
    exact Lib.hid this
  have HD := Lib.hid (dateOf_any n K hK h1 h2 w hT)
  obtain ⟨a, Ha⟩ : ∃ a, Hid (a = Cal.yr K) := ⟨_, Lib.hid rfl⟩
  obtain ⟨b, Hb⟩ : ∃ a, Hid (a = Cal.mo K) := ⟨_, Lib.hid rfl⟩
  obtain ⟨c, Hc⟩ : ∃ a, Hid (a = n - Cal.cum K + 1) := ⟨_, Lib.hid rfl⟩
  rw [← Ha.out, ← Hb.out, ← Hc.out] at HD ⊢
  clear hb h1 h2 hT
  go_enter Tryd.func19, Tryd.ntmps19
  go_wp2_with fail
  refine Hd.out.mono ?_
  rintro e _ ⟨rfl, rfl⟩
  go_wp2_with fail
  refine HD.out.mono ?_
  rintro e w1 ⟨rfl, hb1⟩
  go_wp2
  go_quiet (fail)
  go_wp2
  refine bodyPost_ret (v := .tuple #[.int .i64 a, .int .i64 b, .int .i64 c, .int .i64 0]) (by simp [results, Tryd.results19, go_sem]) rfl ⟨rfl, ?_⟩
  exact below_drewN (hb1.alloc hb1.size _) _

end Go.Proofs.YthnipdcdiffioabDoor
