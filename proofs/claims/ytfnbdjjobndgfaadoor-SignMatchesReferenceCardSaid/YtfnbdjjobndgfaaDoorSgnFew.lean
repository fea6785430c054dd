/- The walks of the law's short, and of the reference's Few and Same of seals. -/
import Derived.Test.YtfnbdjjobndgfaaDoorSgnWalksA
import Derived.Test.YtfnbdjjobndgfaaDoorSgSameRef
namespace Go.Proofs.YtfnbdjjobndgfaaDoor
open Go.RowKit

set_option maxHeartbeats 1000000 in
theorem short_any (ao : Option Addr) (ss : List ByteArray) (cap : Nat) (hn : ss.length ≤ 140737488351232) (hz : ∀ s ∈ ss, s.size ≤ 9223372036854775807) (w : World) (h : IsStrs w ao ss) :
    Calls Tryd.prog 11 #[.slice ao ss.length cap] w fun e w' => e = .returned (.bool (ss.all fun s => decide (s.size ≤ 300))) ∧ w = w' := by
  obtain ⟨n, Hn⟩ : ∃ n, Hid (n = ss.length) := ⟨_, Lib.hid rfl⟩
  obtain ⟨r, Hr⟩ : ∃ n, Hid (n = ss.all fun s => decide (s.size ≤ 300)) := ⟨_, Lib.hid rfl⟩
  have HS := Lib.hid h
  have HZ := Lib.hid hz
  rw [← Hn.out] at hn ⊢
  rw [← Hr.out]
  clear h hz
  go_enter Tryd.func11, Tryd.ntmps11
  go_wp2
  go_loop [3] (fun i => ∃ k : Nat, k ≤ n ∧ i = .int .i64 k ∧ Hid (∀ q, (hq : q < ss.length) → q < k → ss[q].size ≤ 300)) (fun i => n - (intOf i).toNat)
  case atStart => exact ⟨0, by omega, rfl, Lib.hid fun q _ h => by omega⟩
  case round =>
    obtain ⟨k, hk, rfl, HA⟩ := hrel
    by_cases hlt : k < n
    · have hlt' : (k : Int) < n := by omega
      have hks : k < ss.length := by rw [← Hn.out]; exact hlt
      obtain ⟨bk, off, rfl, hbk, hc⟩ := strs_at HS.out hks
      have d1 := hc k hks
      obtain ⟨s, Hs⟩ : ∃ s, Hid (s = ss[k]) := ⟨_, Lib.hid rfl⟩
      rw [← Hs.out] at d1
      have hsz : s.size ≤ 9223372036854775807 := by rw [Hs.out]; exact HZ.out _ (List.getElem_mem _)
      clear hc hbk
      by_cases hs : s.size ≤ 300
      · have g1 : decide ((300 : Int) < s.size) = false := decide_eq_false (by omega)
        have g2 : decide (300 < s.size) = false := decide_eq_false (by omega)
        go_wp2
        go_round
        case rel => exact ⟨k + 1, by omega, by go_num, Lib.hid fun q h1 h2 => by
          by_cases e : q = k
          · subst e; rw [← Hs.out]; exact hs
          · exact HA.out q h1 (by omega)⟩
        case measure => simp [intOf]; omega
      · have g1 : decide ((300 : Int) < s.size) = true := decide_eq_true (by omega)
        have g2 : decide (300 < s.size) = true := decide_eq_true (by omega)
        have HE : Hid (r = false) := Lib.hid (by
          rw [Hr.out]
          refine List.all_eq_false.2 ⟨s, by rw [Hs.out]; exact List.getElem_mem _, by simpa using hs⟩)
        go_wp2
        go_ret
        exact ⟨ret_bool HE.out.symm, rfl⟩
    · have HE : Hid (r = true) := Lib.hid (by
        rw [Hr.out]
        refine List.all_eq_true.2 fun s hs => ?_
        obtain ⟨q, hq, rfl⟩ := List.getElem_of_mem hs
        exact decide_eq_true (HA.out q hq (by have := Hn.out; omega)))
      obtain rfl : n = k := by omega
      go_wp2
      go_ret
      exact ⟨ret_bool HE.out.symm, rfl⟩

/-- What the reference calls few. -/
def FewS (sig path : List ByteArray) : Prop := sig.length ≤ 30 ∧ path.length ≤ 30 ∧ (∀ s ∈ sig, s.size ≤ 100) ∧ ∀ s ∈ path, s.size ≤ 100

def FewPost (w : World) (sig path : List ByteArray) (e : Ending) (w' : World) : Prop := ∃ b, e = .returned (.bool b) ∧ (b = true → FewS sig path) ∧ Below w.heap.size w w'
theorem upto_all {l : List ByteArray} {n k : Nat} (hn : n = l.length) (h : ∀ q, (hq : q < l.length) → q < k → l[q].size ≤ 100) (hk : n ≤ k ∨ 30 ≤ k) (h30 : n ≤ 30) : ∀ s ∈ l, s.size ≤ 100 := fun s hs => by
  obtain ⟨q, hq, rfl⟩ := List.getElem_of_mem hs
  exact h q hq (by omega)

set_option maxHeartbeats 2000000 in
theorem few_any (idx : Int) (so po : Option Addr) (c1 c2 : Nat) (sig path : List ByteArray)
    (hz1 : ∀ s ∈ sig, s.size ≤ 9223372036854775807) (hz2 : ∀ s ∈ path, s.size ≤ 9223372036854775807) (w : World) (h1 : IsStrs w so sig) (h2 : IsStrs w po path) :
    Calls Tryd.prog 12 #[.agg #[.int .i64 idx, .slice so sig.length c1, .slice po path.length c2]] w
      (FewPost w sig path) := by
  obtain ⟨n, Hn⟩ : ∃ n, Hid (n = sig.length) := ⟨_, Lib.hid rfl⟩
  obtain ⟨p, Hp⟩ : ∃ n, Hid (n = path.length) := ⟨_, Lib.hid rfl⟩
  have HS1 := Lib.hid h1
  have HS2 := Lib.hid h2
  have HZ1 := Lib.hid hz1
  have HZ2 := Lib.hid hz2
  rw [← Hn.out]
  rw [← Hp.out]
  clear h1 h2 hz1 hz2
  go_enter Tryd.func12, Tryd.ntmps12
  go_wp2
  obtain ⟨W0, HW0⟩ : ∃ x, Hid (x = w.alloc (.cells #[.int .i64 idx, .slice so n c1, .slice po p c2] 24)) := ⟨_, Lib.hid rfl⟩
  have y1 : W0.cell? ⟨w.heap.size, 1, none⟩ = some (.slice so n c1) := by rw [HW0.out, cell_alloc, if_pos rfl]; rfl
  have y2 : W0.cell? ⟨w.heap.size, 2, none⟩ = some (.slice po p c2) := by rw [HW0.out, cell_alloc, if_pos rfl]; rfl
  have HB0 : Hid (Below w.heap.size w W0) := Lib.hid (by rw [HW0.out]; exact (Below.refl _ _).alloc (Nat.le_refl _) _)
  rw [← HW0.out]
  go_loop [3] (fun i => ∃ k : Nat, k ≤ 30 ∧ i = .int .i64 k ∧ Hid (∀ q, (hq : q < sig.length) → q < k → sig[q].size ≤ 100)) (fun i => 30 - (intOf i).toNat)
  case atStart => exact ⟨0, by omega, rfl, Lib.hid fun q _ h => by omega⟩
  case round =>
    obtain ⟨k, hk, rfl, HA⟩ := hrel
    by_cases hlt : k < n ∧ k < 30
    · obtain ⟨hlt, h30⟩ := hlt
      have hlt' : (k : Int) < n := by omega
      have h30' : (k : Int) < 30 := by omega
      have hks : k < sig.length := by rw [← Hn.out]; exact hlt
      obtain ⟨bk, off, rfl, hbk, hc⟩ := strs_at (HS1.out.below HB0.out) hks
      have d1 := hc k hks
      obtain ⟨s, Hs⟩ : ∃ s, Hid (s = sig[k]) := ⟨_, Lib.hid rfl⟩
      rw [← Hs.out] at d1
      have hsz : s.size ≤ 9223372036854775807 := by rw [Hs.out]; exact HZ1.out _ (List.getElem_mem _)
      clear hc hbk
      by_cases hs : s.size ≤ 100
      · have g1 : decide ((100 : Int) < s.size) = false := decide_eq_false (by omega)
        have g2 : decide (100 < s.size) = false := decide_eq_false (by omega)
        go_wp2
        go_round
        case rel => exact ⟨k + 1, by omega, by go_num, Lib.hid fun q h1 h2 => by
          by_cases e : q = k
          · subst e; rw [← Hs.out]; exact hs
          · exact HA.out q h1 (by omega)⟩
        case measure => simp [intOf]; omega
      · have g1 : decide ((100 : Int) < s.size) = true := decide_eq_true (by omega)
        have g2 : decide (100 < s.size) = true := decide_eq_true (by omega)
        go_wp2
        go_ret
        exact ⟨false, rfl, (fun h => by cases h), HB0.out⟩
    · have HK : Hid (n ≤ k ∨ 30 ≤ k) := Lib.hid (by omega)
      have hb : ¬ (k : Int) < n ∨ (k : Int) < n ∧ ¬ (k : Int) < 30 := by omega
      clear hlt
      rcases hb with hb1 | ⟨hb1, hb2⟩
      all_goals
        go_wp2
        go_loop [4] (fun i => ∃ k : Nat, k ≤ 30 ∧ i = .int .i64 k ∧ Hid (∀ q, (hq : q < path.length) → q < k → path[q].size ≤ 100)) (fun i => 30 - (intOf i).toNat)
        case atStart => exact ⟨0, by omega, rfl, Lib.hid fun q _ h => by omega⟩
        case round =>
          obtain ⟨j, hj, rfl, HA2⟩ := hrel
          by_cases hlt : j < p ∧ j < 30
          · obtain ⟨hlt, h30⟩ := hlt
            have hlt' : (j : Int) < p := by omega
            have h30' : (j : Int) < 30 := by omega
            have hks : j < path.length := by rw [← Hp.out]; exact hlt
            obtain ⟨bk, off, rfl, hbk, hc⟩ := strs_at (HS2.out.below HB0.out) hks
            have d1 := hc j hks
            obtain ⟨s, Hs⟩ : ∃ s, Hid (s = path[j]) := ⟨_, Lib.hid rfl⟩
            rw [← Hs.out] at d1
            have hsz : s.size ≤ 9223372036854775807 := by rw [Hs.out]; exact HZ2.out _ (List.getElem_mem _)
            clear hc hbk
            by_cases hs : s.size ≤ 100
            · have g1 : decide ((100 : Int) < s.size) = false := decide_eq_false (by omega)
              have g2 : decide (100 < s.size) = false := decide_eq_false (by omega)
              go_wp2
              go_round
              case rel => exact ⟨j + 1, by omega, by go_num, Lib.hid fun q h1 h2 => by
                by_cases e : q = j
                · subst e; rw [← Hs.out]; exact hs
                · exact HA2.out q h1 (by omega)⟩
              case measure => simp [intOf]; omega
            · have g1 : decide ((100 : Int) < s.size) = true := decide_eq_true (by omega)
              have g2 : decide (100 < s.size) = true := decide_eq_true (by omega)
              go_wp2
              go_ret
              exact ⟨false, rfl, (fun h => by cases h), HB0.out⟩
          · have HK2 : Hid (p ≤ j ∨ 30 ≤ j) := Lib.hid (by omega)
            have hb' : ¬ (j : Int) < p ∨ (j : Int) < p ∧ ¬ (j : Int) < 30 := by omega
            clear hlt
            obtain ⟨m1, hm1⟩ : ∃ b, decide ((n : Int) ≤ 30) = b := ⟨_, rfl⟩
            obtain ⟨m2, hm2⟩ : ∃ b, decide ((p : Int) ≤ 30) = b := ⟨_, rfl⟩
            have HF : Hid ((m1 && m2) = true → FewS sig path) := Lib.hid fun h => by
              rw [Bool.and_eq_true] at h
              have a1 : (n : Int) ≤ 30 := of_decide_eq_true (hm1.trans h.1)
              have a2 : (p : Int) ≤ 30 := of_decide_eq_true (hm2.trans h.2)
              exact ⟨by rw [← Hn.out]; omega, by rw [← Hp.out]; omega, upto_all Hn.out HA.out HK.out (by omega), upto_all Hp.out HA2.out HK2.out (by omega)⟩
            have hm1n : decide (n ≤ 30) = m1 := by rw [← hm1]; exact decide_eq_decide.2 (by omega)
            have hm2n : decide (p ≤ 30) = m2 := by rw [← hm2]; exact decide_eq_decide.2 (by omega)
            rcases hb' with hc1 | ⟨hc1, hc2⟩
            all_goals
              cases m1
              all_goals
                go_wp2
                go_ret
                exact ⟨_, rfl, HF.out, HB0.out⟩

theorem same_true {a b : List ByteArray} (h : sameB a b = true) : a = b := bytesOf_inj (of_decide_eq_true h)
/-- Are two seals equal? -/
def sameS (i j : Int) (s1 p1 s2 p2 : List ByteArray) : Bool := decide (i = j) && sameB s1 s2 && sameB p1 p2
set_option maxHeartbeats 1000000 in
theorem same_any (i j : Int) (a1 b1 a2 b2 : Option Addr) (c1 d1 c2 d2 : Nat) (s1 p1 s2 p2 : List ByteArray) (hl : s1.length ≤ 1000 ∧ p1.length ≤ 1000 ∧ s2.length ≤ 1000 ∧ p2.length ≤ 1000) (w : World)
    (h1 : IsStrs w a1 s1) (h2 : IsStrs w b1 p1) (h3 : IsStrs w a2 s2) (h4 : IsStrs w b2 p2) :
    Calls Tryd.prog 17 #[.agg #[.int .i64 i, .slice a1 s1.length c1, .slice b1 p1.length d1], .agg #[.int .i64 j, .slice a2 s2.length c2, .slice b2 p2.length d2]] w
      fun e w' => e = .returned (.bool (sameS i j s1 p1 s2 p2)) ∧ Below w.heap.size w w' := by
  have HA : Hid (∀ w', Below w.heap.size w w' → Calls Tryd.prog 21 #[.slice a1 s1.length c1, .slice a2 s2.length c2] w' fun e w2 => e = .returned (.bool (sameB s1 s2)) ∧ Below w'.heap.size w' w2) :=
    Lib.hid fun w' hb => refSame_any a1 a2 s1 s2 c1 c2 w' (h1.below hb) (h3.below hb) (by omega) (by omega)
  have HB : Hid (∀ w', Below w.heap.size w w' → Calls Tryd.prog 21 #[.slice b1 p1.length d1, .slice b2 p2.length d2] w' fun e w2 => e = .returned (.bool (sameB p1 p2)) ∧ Below w'.heap.size w' w2) :=
    Lib.hid fun w' hb => refSame_any b1 b2 p1 p2 d1 d2 w' (h2.below hb) (h4.below hb) (by omega) (by omega)
  obtain ⟨r, Hr⟩ : ∃ r, Hid (r = sameS i j s1 p1 s2 p2) := ⟨_, Lib.hid rfl⟩
  obtain ⟨x, Hx⟩ : ∃ r, Hid (r = sameB s1 s2) := ⟨_, Lib.hid rfl⟩
  obtain ⟨y, Hy⟩ : ∃ r, Hid (r = sameB p1 p2) := ⟨_, Lib.hid rfl⟩
  have HR : Hid (r = (decide (i = j) && x && y)) := Lib.hid (by rw [Hr.out, Hx.out, Hy.out]; rfl)
  rw [← Hr.out]
  rw [← Hx.out] at HA
  rw [← Hy.out] at HB
  obtain ⟨n1, Hn1⟩ : ∃ n, Hid (n = s1.length) := ⟨_, Lib.hid rfl⟩
  obtain ⟨n2, Hn2⟩ : ∃ n, Hid (n = s2.length) := ⟨_, Lib.hid rfl⟩
  obtain ⟨m1, Hm1⟩ : ∃ n, Hid (n = p1.length) := ⟨_, Lib.hid rfl⟩
  obtain ⟨m2, Hm2⟩ : ∃ n, Hid (n = p2.length) := ⟨_, Lib.hid rfl⟩
  rw [← Hn1.out, ← Hn2.out] at HA
  rw [← Hm1.out, ← Hm2.out] at HB
  rw [← Hn1.out, ← Hn2.out, ← Hm1.out, ← Hm2.out]
  clear h1 h2 h3 h4 hl
  go_enter Tryd.func17, Tryd.ntmps17
  obtain ⟨bi, hbi⟩ : ∃ b, (i == j) = b := ⟨_, rfl⟩
  have hbd : decide (i = j) = bi := by rw [← hbi]; exact (by rw [Bool.eq_iff_iff]; simp)
  have HW : Hid (Below w.heap.size w ((w.alloc (.cells #[.int .i64 i, .slice a1 n1 c1, .slice b1 m1 d1] 24)).alloc (.cells #[.int .i64 j, .slice a2 n2 c2, .slice b2 m2 d2] 24))) :=
    Lib.hid (((Below.refl _ _).alloc (Nat.le_refl _) _).alloc (by rw [size_alloc]; omega) _)
  rw [hbd] at HR
  cases bi with
  | false =>
    go_wp2_with fail
    go_ret
    exact ⟨ret_bool (by rw [HR.out]; rfl), HW.out⟩
  | true =>
    cases x with
    | false =>
      go_wp2_with fail
      refine (HA.out _ HW.out).mono ?_
      rintro e w1 ⟨rfl, hb⟩
      have HB1 := Lib.hid (HW.out.trans (hb.mono HW.out.size))
      clear hb
      go_wp2_with fail
      go_ret
      exact ⟨ret_bool (by rw [HR.out]; rfl), HB1.out⟩
    | true =>
      go_wp2_with fail
      refine (HA.out _ HW.out).mono ?_
      rintro e w1 ⟨rfl, hb⟩
      have HB1 := Lib.hid (HW.out.trans (hb.mono HW.out.size))
      have q1 : w1.cell? ⟨w.heap.size, 2, none⟩ = some (.slice b1 m1 d1) := by rw [hb.cell (p := ⟨w.heap.size, 2, none⟩) (by simp; omega)]; simp [cell_alloc]
      have q2 : w1.cell? ⟨w.heap.size + 1, 2, none⟩ = some (.slice b2 m2 d2) := by rw [hb.cell (p := ⟨w.heap.size + 1, 2, none⟩) (by simp)]; simp [cell_alloc]
      clear hb
      go_wp2_with fail
      refine (HB.out _ HB1.out).mono ?_
      rintro e w2 ⟨rfl, hb⟩
      have HB2 := Lib.hid (HB1.out.trans (hb.mono HB1.out.size))
      clear hb
      go_wp2_with fail
      go_ret
      exact ⟨ret_bool (by rw [HR.out]; rfl), HB2.out⟩

end Go.Proofs.YtfnbdjjobndgfaaDoor
