/- The walks of package day: the day of a date. -/
import Derived.Test.YthnipdcdiffioabDoorDayWalksB
namespace Go.Proofs.YthnipdcdiffioabDoor
open Go.RowKit

set_option maxHeartbeats 1000000 in
theorem next_any (k : Nat) (d : Int) (hk : k ≤ 2000) (w : World) :
    Calls Tryd.prog 24 #[.agg #[.int .i64 (Cal.yr k), .int .i64 (Cal.mo k), .int .i64 d]] w fun e w' => e = .returned (.agg #[.int .i64 (Cal.yr (k + 1)), .int .i64 (Cal.mo (k + 1)), .int .i64 d]) ∧ Below w.heap.size w w' := by
  obtain ⟨y, Hy⟩ : ∃ a, Hid (a = Cal.yr k) := ⟨_, Lib.hid rfl⟩
  obtain ⟨m, Hm⟩ : ∃ a, Hid (a = Cal.mo k) := ⟨_, Lib.hid rfl⟩
  obtain ⟨y2, Hy2⟩ : ∃ a, Hid (a = Cal.yr (k + 1)) := ⟨_, Lib.hid rfl⟩
  obtain ⟨m2, Hm2⟩ : ∃ a, Hid (a = Cal.mo (k + 1)) := ⟨_, Lib.hid rfl⟩
  rw [← Hy.out, ← Hm.out, ← Hy2.out, ← Hm2.out]
  have hr : (m = 12 ∧ y2 = y + 1 ∧ m2 = 1) ∨ (m ≠ 12 ∧ y2 = y ∧ m2 = m + 1) := by
    rw [Hy.out, Hm.out, Hy2.out, Hm2.out]; unfold Cal.yr Cal.mo; omega
  have hyb : 2000 ≤ y ∧ y ≤ 3000 := by rw [Hy.out]; unfold Cal.yr; omega
  have hmb : 1 ≤ m ∧ m ≤ 12 := by rw [Hm.out]; exact Cal.mo_bd k
  obtain ⟨y0, y1⟩ := hyb
  obtain ⟨m0, m1⟩ := hmb
  rcases hr with ⟨h, rfl, rfl⟩ | ⟨h, rfl, rfl⟩
  · have h' : (m == 12) = true := by simp [h]
    clear h
    go_enter Tryd.func24, Tryd.ntmps24
    go_wp2
    refine bodyPost_ret (v := .agg #[.int .i64 (y + 1), .int .i64 1, .int .i64 d]) (by simp [results, Tryd.results24, go_sem]) rfl ⟨rfl, ?_⟩
    exact ((Below.refl _ _).alloc (Nat.le_refl _) _).alloc (by simp) _
  · have h' : (m == 12) = false := by simp [h]
    go_enter Tryd.func24, Tryd.ntmps24
    go_wp2
    refine bodyPost_ret (v := .agg #[.int .i64 y2, .int .i64 (m + 1), .int .i64 d]) (by simp [results, Tryd.results24, go_sem]) rfl ⟨rfl, ?_⟩
    exact ((Below.refl _ _).alloc (Nat.le_refl _) _).alloc (by simp) _

theorem isDay_val (n : Int) (v : Bool) (h : (decide (0 ≤ n) && decide (n ≤ 40000)) = v) (w : World) :
    Calls Tryd.prog 25 #[.int .i64 n] w fun e w' => e = .returned (.bool v) ∧ w = w' := by
  have := isDay_any n w
  rwa [h] at this

/-- A date that has a month and a day of the month that are out of range. -/
def badDate (y m d : Int) : Prop := m < 1 ∨ 12 < m ∨ d < 1 ∨ Cal.mlen y m < d
set_option maxHeartbeats 1000000 in
theorem number_arg (y m d : Int) (h : badDate y m d) (w : World) (hT : MTab w) :
    Calls Tryd.prog 11 #[.int .i64 y, .int .i64 m, .int .i64 d] w fun e w' => e = .returned (.tuple #[.int .i64 0, .int .i64 1]) ∧ w = w' := by
  by_cases a : m < 1
  · clear h
    go_enter Tryd.func11, Tryd.ntmps11
    go_wp2
    go_ret2
    exact ⟨rfl, rfl⟩
  · by_cases b : 12 < m
    · clear h
      go_enter Tryd.func11, Tryd.ntmps11
      go_wp2
      go_ret2
      exact ⟨rfl, rfl⟩
    · by_cases c : d < 1
      · clear h
        go_enter Tryd.func11, Tryd.ntmps11
        go_wp2
        go_ret2
        exact ⟨rfl, rfl⟩
      · obtain ⟨l, Hl⟩ : ∃ l, Hid (l = Cal.mlen y m) := ⟨_, Lib.hid rfl⟩
        have hd : l < d := by rw [Hl.out]; unfold badDate at h; omega
        have HL : Hid (Calls Tryd.prog 22 #[.int .i64 y, .int .i64 m] w fun e w' => e = .returned (.int .i64 l) ∧ w = w') := by rw [Hl.out]; exact Lib.hid (length_any y m (by omega) (by omega) w hT)
        clear h hT
        go_enter Tryd.func11, Tryd.ntmps11
        go_wp2_with fail
        refine HL.out.mono ?_
        rintro e _ ⟨rfl, rfl⟩
        go_wp2
        go_ret2
        exact ⟨rfl, rfl⟩
set_option maxHeartbeats 1000000 in
theorem number_year (y m d : Int) (h : ¬ badDate y m d) (hy : y < 2000 ∨ 2109 < y) (w : World) (hT : MTab w) :
    Calls Tryd.prog 11 #[.int .i64 y, .int .i64 m, .int .i64 d] w fun e w' => e = .returned (.tuple #[.int .i64 0, .int .i64 13]) ∧ w = w' := by
  unfold badDate at h
  obtain ⟨l, Hl⟩ : ∃ l, Hid (l = Cal.mlen y m) := ⟨_, Lib.hid rfl⟩
  rw [← Hl.out] at h
  have a1 : ¬ m < 1 := by omega
  have a2 : ¬ 12 < m := by omega
  have a3 : ¬ d < 1 := by omega
  have a4 : ¬ l < d := by omega
  have HL : Hid (Calls Tryd.prog 22 #[.int .i64 y, .int .i64 m] w fun e w' => e = .returned (.int .i64 l) ∧ w = w') := by rw [Hl.out]; exact Lib.hid (length_any y m (by omega) (by omega) w hT)
  clear h hT
  rcases Int.lt_or_le y 2000 with h | h
  · clear hy
    go_enter Tryd.func11, Tryd.ntmps11
    go_wp2_with fail
    refine HL.out.mono ?_
    rintro e _ ⟨rfl, rfl⟩
    go_wp2
    go_ret2
    exact ⟨rfl, rfl⟩
  · have h2 : 2109 < y := by omega
    clear hy
    go_enter Tryd.func11, Tryd.ntmps11
    go_wp2_with fail
    refine HL.out.mono ?_
    rintro e _ ⟨rfl, rfl⟩
    go_wp2
    go_ret2
    exact ⟨rfl, rfl⟩

/-- What the search for the date keeps of the world. -/
structure NumRun (w : World) (b : Nat) (j : Nat) (d : Int) (wr : World) : Prop where
  cell : wr.cell? ⟨w.heap.size, 0, none⟩ = some (.int .i64 (Cal.cum j))
  fr : wr.frozen? ⟨w.heap.size, 0, none⟩ = false
  high : w.heap.size < b
  low : b < wr.heap.size
  c0 : wr.cell? ⟨b, 0, none⟩ = some (.int .i64 (Cal.yr j))
  c1 : wr.cell? ⟨b, 1, none⟩ = some (.int .i64 (Cal.mo j))
  c2 : wr.cell? ⟨b, 2, none⟩ = some (.int .i64 d)
  f0 : wr.frozen? ⟨b, 0, none⟩ = false
  f1 : wr.frozen? ⟨b, 1, none⟩ = false
  f2 : wr.frozen? ⟨b, 2, none⟩ = false
  below : Below w.heap.size w wr

theorem NumRun.next {w wr w2 : World} {b j : Nat} {d y' m' : Int} {cs : Array Value} {T : TypeId} (h : NumRun w b j d wr) (hcs : cs.size = 3) (hy : y' = Cal.yr (j + 1)) (hm : m' = Cal.mo (j + 1))
    (hb : Below ((wr.setCell ⟨w.heap.size, 0, none⟩ (.int .i64 (Cal.cum (j + 1)))).alloc (.cells cs T)).drew.heap.size ((wr.setCell ⟨w.heap.size, 0, none⟩ (.int .i64 (Cal.cum (j + 1)))).alloc (.cells cs T)).drew w2) :
    NumRun w wr.heap.size (j + 1) d (((w2.setCell ⟨wr.heap.size, 0, none⟩ (.int .i64 y')).setCell ⟨wr.heap.size, 1, none⟩ (.int .i64 m')).setCell ⟨wr.heap.size, 2, none⟩ (.int .i64 d)) := by
  subst hy hm
  have hlow := h.low
  have hhigh := h.high
  have zs : wr.heap.size + 1 ≤ w2.heap.size := by have := hb.size; simpa using this
  have keepc : ∀ k o, k ≤ wr.heap.size → w2.cell? ⟨k, o, none⟩ = ((wr.setCell ⟨w.heap.size, 0, none⟩ (.int .i64 (Cal.cum (j + 1)))).alloc (.cells cs T)).cell? ⟨k, o, none⟩ := fun k o hk => by
    rw [hb.cell (p := ⟨k, o, none⟩) (by simp; omega), World.cell?_drew]
  have keepf : ∀ k o, k ≤ wr.heap.size → w2.frozen? ⟨k, o, none⟩ = ((wr.setCell ⟨w.heap.size, 0, none⟩ (.int .i64 (Cal.cum (j + 1)))).alloc (.cells cs T)).frozen? ⟨k, o, none⟩ := fun k o hk => by
    rw [hb.frozen (p := ⟨k, o, none⟩) (by simp; omega), World.frozen?_drew]
  obtain ⟨v0, e0⟩ : ∃ v, w2.cell? ⟨wr.heap.size, 0, none⟩ = some v := ⟨cs[0], by rw [keepc _ _ (Nat.le_refl _), cell_alloc, if_pos (by simp)]; exact Array.getElem?_eq_getElem _⟩
  obtain ⟨v1, e1⟩ : ∃ v, w2.cell? ⟨wr.heap.size, 1, none⟩ = some v := ⟨cs[1], by rw [keepc _ _ (Nat.le_refl _), cell_alloc, if_pos (by simp)]; exact Array.getElem?_eq_getElem _⟩
  obtain ⟨v2, e2⟩ : ∃ v, w2.cell? ⟨wr.heap.size, 2, none⟩ = some v := ⟨cs[2], by rw [keepc _ _ (Nat.le_refl _), cell_alloc, if_pos (by simp)]; exact Array.getElem?_eq_getElem _⟩
  have g : ∀ o, w2.frozen? ⟨wr.heap.size, o, none⟩ = false := fun o => by rw [keepf _ _ (Nat.le_refl _), frozen_alloc, if_pos (by simp)]
  have e1' : (w2.setCell ⟨wr.heap.size, 0, none⟩ (.int .i64 (Cal.yr (j + 1)))).cell? ⟨wr.heap.size, 1, none⟩ = some v1 := by rw [World.cell?_setCell_other _ _ _ _ (by simp), e1]
  have e2' : ((w2.setCell ⟨wr.heap.size, 0, none⟩ (.int .i64 (Cal.yr (j + 1)))).setCell ⟨wr.heap.size, 1, none⟩ (.int .i64 (Cal.mo (j + 1)))).cell? ⟨wr.heap.size, 2, none⟩ = some v2 := by
    rw [World.cell?_setCell_other _ _ _ _ (by simp), World.cell?_setCell_other _ _ _ _ (by simp), e2]
  refine ⟨?_, ?_, by omega, by simp; omega, ?_, ?_, ?_, ?_, ?_, ?_, ?_⟩
  · rw [World.cell?_setCell_other _ _ _ _ (by simp; try omega), World.cell?_setCell_other _ _ _ _ (by simp; try omega), World.cell?_setCell_other _ _ _ _ (by simp; try omega), keepc _ _ (by omega), cell_alloc, if_neg (by simp; omega), World.cell?_setCell_same _ _ _ h.cell]
  · rw [World.frozen?_setCell, World.frozen?_setCell, World.frozen?_setCell, keepf _ _ (by omega), frozen_alloc, if_neg (by simp; omega), World.frozen?_setCell]; exact h.fr
  · rw [World.cell?_setCell_other _ _ _ _ (by simp), World.cell?_setCell_other _ _ _ _ (by simp), World.cell?_setCell_same _ _ _ e0]
  · rw [World.cell?_setCell_other _ _ _ _ (by simp), World.cell?_setCell_same _ _ _ e1']
  · rw [World.cell?_setCell_same _ _ _ e2']
  · rw [World.frozen?_setCell, World.frozen?_setCell, World.frozen?_setCell]; exact g 0
  · rw [World.frozen?_setCell, World.frozen?_setCell, World.frozen?_setCell]; exact g 1
  · rw [World.frozen?_setCell, World.frozen?_setCell, World.frozen?_setCell]; exact g 2
  · have hb0 : Below w.heap.size w w2 := (((h.below.setCell (Nat.le_refl _) _).alloc (by simp; omega) _).drew).trans (hb.mono (by simp; omega))
    exact ((hb0.setCell (by show w.heap.size ≤ wr.heap.size; omega) _).setCell (by show w.heap.size ≤ wr.heap.size; omega) _).setCell (by show w.heap.size ≤ wr.heap.size; omega) _

set_option maxHeartbeats 4000000 in
theorem number_run (K : Nat) (d : Int) (hK : K < 1320) (h1 : 1 ≤ d) (h2 : d ≤ Cal.len K) (v : Bool) (hv : (decide (0 ≤ Cal.cum K + d - 1) && decide (Cal.cum K + d - 1 ≤ 40000)) = v) (w : World) (hT : MTab w) :
    Calls Tryd.prog 11 #[.int .i64 (Cal.yr K), .int .i64 (Cal.mo K), .int .i64 d] w fun e w' => e = .returned (.tuple #[.int .i64 (if v then Cal.cum K + d - 1 else 0), .int .i64 (if v then 0 else 13)]) ∧ Below w.heap.size w w' := by
  have HT := Lib.hid hT
  obtain ⟨y, Hy⟩ : ∃ a, Hid (a = Cal.yr K) := ⟨_, Lib.hid rfl⟩
  obtain ⟨m, Hm⟩ : ∃ a, Hid (a = Cal.mo K) := ⟨_, Lib.hid rfl⟩
  obtain ⟨l, Hl⟩ : ∃ a, Hid (a = Cal.len K) := ⟨_, Lib.hid rfl⟩
  have m0 : 1 ≤ m := by rw [Hm.out]; exact (Cal.mo_bd K).1
  have m1 : m ≤ 12 := by rw [Hm.out]; exact (Cal.mo_bd K).2
  have y0 : 2000 ≤ y := by rw [Hy.out]; unfold Cal.yr; omega
  have y1 : y ≤ 2109 := by rw [Hy.out]; unfold Cal.yr; omega
  have l1 : l ≤ 31 := by rw [Hl.out]; exact (Cal.len_bd K).2
  rw [← Hl.out] at h2
  have HL : Hid (Calls Tryd.prog 22 #[.int .i64 y, .int .i64 m] w fun e w' => e = .returned (.int .i64 l) ∧ w = w') := by
    have e : l = Cal.mlen y m := by rw [Hl.out, Hy.out, Hm.out]; rfl
    rw [e]; exact Lib.hid (length_any y m m0 m1 w hT)
  have HV := Lib.hid hv
  rw [← Hy.out, ← Hm.out]
  clear hT hv
  go_enter Tryd.func11, Tryd.ntmps11
  go_wp2_with fail
  refine HL.out.mono ?_
  rintro e _ ⟨rfl, rfl⟩
  go_wp2_with (go_at_call 23; refine (counter_any _).mono ?_; rintro e w' ⟨rfl, rfl⟩)
  go_loopw [9, 10] (fun z p wr => ∃ (j b : Nat) (x : Int), z = .int .i64 x ∧ p = .pointer (some ⟨b, 0, none⟩) ∧ j ≤ K ∧ NumRun w b j d wr) (fun _ _ wr => match wr.cell? ⟨w.heap.size, 0, none⟩ with | some v => 60000 - (intOf v).toNat | none => 0)
  case atStart =>
    refine ⟨0, w.heap.size + 1, 0, rfl, by simp, by omega, ?_, ?_, by omega, by simp, ?_, ?_, ?_, ?_, ?_, ?_, ((Below.refl _ _).alloc (Nat.le_refl _) _).alloc (by simp) _⟩ <;> simp [cell_alloc, frozen_alloc, Cal.cum, Cal.yr, Cal.mo]
  case round =>
    obtain ⟨j, b, x, rfl, rfl, hj, R⟩ := hrel
    obtain ⟨c, Hc⟩ : ∃ c, Hid (c = Cal.cum j) := ⟨_, Lib.hid rfl⟩
    obtain ⟨yj, Hyj⟩ : ∃ a, Hid (a = Cal.yr j) := ⟨_, Lib.hid rfl⟩
    obtain ⟨mj, Hmj⟩ : ∃ a, Hid (a = Cal.mo j) := ⟨_, Lib.hid rfl⟩
    obtain ⟨lj, Hlj⟩ : ∃ a, Hid (a = Cal.len j) := ⟨_, Lib.hid rfl⟩
    have hc0 : 0 ≤ c := by rw [Hc.out]; exact Cal.cum_nonneg _
    have hc1 : c ≤ 50000 := by rw [Hc.out]; have := Cal.cum_le j; omega
    have hl0 : 28 ≤ lj := by rw [Hlj.out]; exact (Cal.len_bd _).1
    have hl1 : lj ≤ 31 := by rw [Hlj.out]; exact (Cal.len_bd _).2
    have HR := Lib.hid R
    have HC : Hid (Calls Tryd.prog 34 #[.int .i64 yj, .int .i64 mj, .pointer (some ⟨w.heap.size, 0, none⟩)] wr fun e w' => e = .returned (.int .i64 c) ∧ w' = (wr.setCell ⟨w.heap.size, 0, none⟩ (.int .i64 (c + lj))).drew) := by
      have e : lj = Cal.mlen yj mj := by rw [Hlj.out, Hyj.out, Hmj.out]; rfl
      rw [e]
      refine Lib.hid (count_any yj mj c (by rw [Hmj.out]; exact (Cal.mo_bd _).1) (by rw [Hmj.out]; exact (Cal.mo_bd _).2) hc0 (by omega) _ wr (HT.out.below R.below) (by rw [Hc.out]; exact R.cell) R.fr)
    have k0 : wr.cell? ⟨b, 0, none⟩ = some (.int .i64 yj) := by rw [Hyj.out]; exact R.c0
    have k1 : wr.cell? ⟨b, 1, none⟩ = some (.int .i64 mj) := by rw [Hmj.out]; exact R.c1
    have k2 := R.c2
    have n1 : b ≠ w.heap.size := by have := R.high; omega
    have Hcs : Hid (Cal.cum (j + 1) = c + lj) := by rw [Hc.out, Hlj.out]; exact Lib.hid rfl
    clear R
    by_cases hjK : j = K
    · have ey : yj = y := by rw [Hyj.out, Hy.out, hjK]
      have em : mj = m := by rw [Hmj.out, Hm.out, hjK]
      have Hck : Hid (c = Cal.cum K) := by rw [Hc.out, hjK]; exact Lib.hid rfl
      have HD : Hid (∀ W : World, Calls Tryd.prog 25 #[.int .i64 (c + d - 1)] W fun e w' => e = .returned (.bool v) ∧ W = w') := Lib.hid fun W => isDay_val _ v (by rw [Hck.out]; exact HV.out) W
      subst ey em
      clear hjK
      cases v
      · go_wp2_with fail
        refine HC.out.mono ?_
        rintro e w' ⟨rfl, rfl⟩
        go_wp2_with fail
        refine (HD.out _).mono ?_
        rintro e _ ⟨rfl, rfl⟩
        go_wp2
        go_ret2
        exact ⟨rfl, (HR.out.below.setCell (Nat.le_refl _) _).drew⟩
      · go_wp2_with fail
        refine HC.out.mono ?_
        rintro e w' ⟨rfl, rfl⟩
        go_wp2_with fail
        refine (HD.out _).mono ?_
        rintro e _ ⟨rfl, rfl⟩
        go_wp2
        go_ret2
        exact ⟨by rw [Hck.out]; rfl, (HR.out.below.setCell (Nat.le_refl _) _).drew⟩
    · have hj1 : j + 1 ≤ K := by omega
      have hne : ¬ (yj = y ∧ mj = m) := by
        rw [Hyj.out, Hmj.out, Hy.out, Hm.out]; unfold Cal.yr Cal.mo; omega
      have HN : Hid (∀ W : World, Calls Tryd.prog 24 #[.agg #[.int .i64 yj, .int .i64 mj, .int .i64 d]] W fun e w' => e = .returned (.agg #[.int .i64 (Cal.yr (j + 1)), .int .i64 (Cal.mo (j + 1)), .int .i64 d]) ∧ Below W.heap.size W w') :=
        Lib.hid fun W => by rw [Hyj.out, Hmj.out]; exact next_any j d (by omega) W
      obtain ⟨y2, Hy2⟩ : ∃ a, Hid (a = Cal.yr (j + 1)) := ⟨_, Lib.hid rfl⟩
      obtain ⟨m2, Hm2⟩ : ∃ a, Hid (a = Cal.mo (j + 1)) := ⟨_, Lib.hid rfl⟩
      rw [← Hy2.out, ← Hm2.out] at HN
      clear hjK
      by_cases hey : yj = y
      · have hem : ¬ mj = m := fun h => hne ⟨hey, h⟩
        subst hey
        clear hne
        go_wp2_with fail
        refine HC.out.mono ?_
        rintro e w' ⟨rfl, rfl⟩
        go_wp2_with fail
        refine (HN.out _).mono ?_
        rintro e w2 ⟨rfl, hb2⟩
        have q0 : w2.cell? ⟨wr.heap.size, 0, none⟩ = some (.int .i64 yj) := by rw [hb2.cell (p := ⟨wr.heap.size, 0, none⟩) (by simp)]; simp [cell_alloc]
        have q1 : w2.cell? ⟨wr.heap.size, 1, none⟩ = some (.int .i64 mj) := by rw [hb2.cell (p := ⟨wr.heap.size, 1, none⟩) (by simp)]; simp [cell_alloc]
        have q2 : w2.cell? ⟨wr.heap.size, 2, none⟩ = some (.int .i64 d) := by rw [hb2.cell (p := ⟨wr.heap.size, 2, none⟩) (by simp)]; simp [cell_alloc]
        have p0 : w2.frozen? ⟨wr.heap.size, 0, none⟩ = false := by rw [hb2.frozen (p := ⟨wr.heap.size, 0, none⟩) (by simp)]; simp [frozen_alloc]
        have p1 : w2.frozen? ⟨wr.heap.size, 1, none⟩ = false := by rw [hb2.frozen (p := ⟨wr.heap.size, 1, none⟩) (by simp)]; simp [frozen_alloc]
        have p2 : w2.frozen? ⟨wr.heap.size, 2, none⟩ = false := by rw [hb2.frozen (p := ⟨wr.heap.size, 2, none⟩) (by simp)]; simp [frozen_alloc]
        have RN := NumRun.next (w2 := w2) HR.out (cs := #[.int .i64 yj, .int .i64 mj, .int .i64 d]) (T := 46) rfl Hy2.out Hm2.out (by rw [Hcs.out]; exact hb2)
        have HRN := Lib.hid RN
        clear RN hb2
        go_wp2
        go_roundw
        case rel => exact ⟨j + 1, wr.heap.size, c + d - 1, rfl, rfl, hj1, HRN.out⟩
        case measure => rw [HRN.out.cell, HR.out.cell]; simp [intOf]; have := Hcs.out; have := Hc.out; omega
      · clear hne
        go_wp2_with fail
        refine HC.out.mono ?_
        rintro e w' ⟨rfl, rfl⟩
        go_wp2_with fail
        refine (HN.out _).mono ?_
        rintro e w2 ⟨rfl, hb2⟩
        have q0 : w2.cell? ⟨wr.heap.size, 0, none⟩ = some (.int .i64 yj) := by rw [hb2.cell (p := ⟨wr.heap.size, 0, none⟩) (by simp)]; simp [cell_alloc]
        have q1 : w2.cell? ⟨wr.heap.size, 1, none⟩ = some (.int .i64 mj) := by rw [hb2.cell (p := ⟨wr.heap.size, 1, none⟩) (by simp)]; simp [cell_alloc]
        have q2 : w2.cell? ⟨wr.heap.size, 2, none⟩ = some (.int .i64 d) := by rw [hb2.cell (p := ⟨wr.heap.size, 2, none⟩) (by simp)]; simp [cell_alloc]
        have p0 : w2.frozen? ⟨wr.heap.size, 0, none⟩ = false := by rw [hb2.frozen (p := ⟨wr.heap.size, 0, none⟩) (by simp)]; simp [frozen_alloc]
        have p1 : w2.frozen? ⟨wr.heap.size, 1, none⟩ = false := by rw [hb2.frozen (p := ⟨wr.heap.size, 1, none⟩) (by simp)]; simp [frozen_alloc]
        have p2 : w2.frozen? ⟨wr.heap.size, 2, none⟩ = false := by rw [hb2.frozen (p := ⟨wr.heap.size, 2, none⟩) (by simp)]; simp [frozen_alloc]
        have RN := NumRun.next (w2 := w2) HR.out (cs := #[.int .i64 yj, .int .i64 mj, .int .i64 d]) (T := 46) rfl Hy2.out Hm2.out (by rw [Hcs.out]; exact hb2)
        have HRN := Lib.hid RN
        clear RN hb2
        go_wp2
        go_roundw
        case rel => exact ⟨j + 1, wr.heap.size, c + d - 1, rfl, rfl, hj1, HRN.out⟩
        case measure => rw [HRN.out.cell, HR.out.cell]; simp [intOf]; have := Hcs.out; have := Hc.out; omega

end Go.Proofs.YthnipdcdiffioabDoor
