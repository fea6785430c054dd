/- The walks: whether tasks are valid, and few. -/
import Derived.Test.YtejgbfaampllaaaTskIs
namespace Go.Proofs.Ytejgbfaampllaaa
open Go.RowKit

set_option maxRecDepth 100000 in
set_option maxHeartbeats 2000000 in
theorem valid_any (l : List Tk) (hf : ∀ t ∈ l, tkFine t) (hn : l.length ≤ 9223372036854775807) (ao : Option Addr) (cap : Nat) (W : World) (hl : IsTasks W ao l) :
    Calls Try.prog 17 #[.slice ao l.length cap] W fun e w' => e = .returned (.bool (Tsk.validB l)) ∧ Below W.heap.size W w' := by
  obtain ⟨n, Hn⟩ : ∃ n, Hid (n = l.length) := ⟨_, Lib.hid rfl⟩
  obtain ⟨r, Hr⟩ : ∃ r, Hid (r = Tsk.validB l) := ⟨_, Lib.hid rfl⟩
  have HF := Lib.hid hf
  have HL := Lib.hid hl
  rw [← Hn.out] at hn ⊢
  rw [← Hr.out]
  clear hf hl
  by_cases h40 : (40 : Int) < n
  · have HB : Hid (r = false) := Lib.hid (by
      rw [Hr.out]
      cases h : Tsk.validB l
      · rfl
      · have := (Tsk.validB_iff.1 h).1
        have := Hn.out
        omega)
    go_enter Try.func17, Try.ntmps17
    go_wp2
    go_ret
    exact ⟨ret_bool HB.out.symm, Below.refl _ _⟩
  · have hle : (n : Int) ≤ 40 := by omega
    go_enter Try.func17, Try.ntmps17
    go_wp2
    go_loopw [12] (fun i wr => ∃ k : Nat, k ≤ n ∧ i = .int .i64 k ∧ Hid (Below W.heap.size W wr) ∧ Hid (∀ j, (hj : j < l.length) → j < k → Tsk.fineTB n l[j] = true)) (fun i _ => n - (intOf i).toNat)
    case atStart => exact ⟨0, by omega, rfl, Lib.hid (Below.refl _ _), Lib.hid fun j _ h => by omega⟩
    case round =>
      obtain ⟨k, hk, rfl, HB, HA⟩ := hrel
      by_cases hlt : k < n
      · have hlt' : (k : Int) < n := by omega
        have hkl : k < l.length := by rw [← Hn.out]; exact hlt
        obtain ⟨bk, off, rfl, hbk, hact⟩ := (HL.out.below HB.out).at hkl
        obtain ⟨t, Ht⟩ : ∃ t, Hid (t = l[k]) := ⟨_, Lib.hid rfl⟩
        rw [← Ht.out] at hact
        have hfin : tkFine t := by rw [Ht.out]; exact HF.out _ (List.getElem_mem _)
        have HBad : Hid (∀ (hb : Tsk.fineTB n t = false), r = false) := Lib.hid fun hb => by
          rw [Hr.out]
          cases h : Tsk.validB l
          · rfl
          · have h2 := (Tsk.validB_iff.1 h).2 _ (List.getElem_mem hkl)
            rw [← Hn.out, ← Ht.out, hb] at h2
            cases h2
        obtain ⟨hh, sk, ba, af⟩ := t
        obtain ⟨c1, c2, c3, ao2, cap2, c4, hin⟩ := hact
        simp only at c1 c2 c3 c4 hin hfin
        obtain ⟨m, Hm⟩ : ∃ m, Hid (m = af.length) := ⟨_, Lib.hid rfl⟩
        rw [← Hm.out] at c4
        have hm : (m : Int) ≤ 9223372036854775807 := by have h0 : af.length ≤ 9223372036854775807 := hfin.1; have := Hm.out; omega
        have HI := Lib.hid hin
        have HFin := Lib.hid hfin
        clear hin hfin
        have hcase : hh < 1 ∨ ¬ hh < 1 ∧ (1000 < hh ∨ ¬ 1000 < hh ∧ (sk < 0 ∨ ¬ sk < 0 ∧ (8 ≤ sk ∨ ¬ 8 ≤ sk))) := by omega
        rcases hcase with h1 | ⟨h1, h2 | ⟨h2, h3 | ⟨h3, h4 | h4⟩⟩⟩
        case inr.inr.inr.inr =>
          have HHead : Hid (Tsk.headB ⟨hh, sk, ba, af⟩ = true) := Lib.hid (Tsk.headB_iff.2 (show 1 ≤ hh ∧ hh ≤ 1000 ∧ 0 ≤ sk ∧ sk < 8 from ⟨by omega, by omega, by omega, by omega⟩))
          go_wp2
          obtain ⟨W1, HW1⟩ : ∃ W1, Hid (W1 = wr.alloc (.cells #[.int .i64 hh, .int .i64 sk, .bool ba, .slice ao2 m cap2] 41)) := ⟨_, Lib.hid rfl⟩
          have HB1 : Hid (Below W.heap.size W W1) := Lib.hid (by rw [HW1.out]; exact below_alloc HB.out _)
          have q4 : W1.cell? ⟨wr.heap.size, 3, none⟩ = some (.slice ao2 m cap2) := by rw [HW1.out, cell_alloc, if_pos rfl]; rfl
          have HI1 : Hid (IsInts W1 ao2 af) := Lib.hid (by rw [HW1.out]; exact HI.out.below ((Below.refl _ _).alloc (Nat.le_refl _) _))
          rw [← HW1.out]
          clear c1 c2 c3 c4 h1 h2 h3 h4
          obtain ⟨wo, rfl⟩ : ∃ x, x = wr := ⟨_, rfl⟩
          go_loop [37] (fun i => ∃ j : Nat, j ≤ m ∧ i = .int .i64 j ∧ Hid (∀ q, q < j → Tsk.stepB n af q = true)) (fun i => m - (intOf i).toNat)
          case atStart => exact ⟨0, by omega, rfl, Lib.hid fun q h => by omega⟩
          case round =>
            obtain ⟨j, hj, rfl, HS⟩ := hrel
            by_cases hlt2 : j < m
            · have hlt2' : (j : Int) < m := by omega
              have hja : j < af.length := by rw [← Hm.out]; exact hlt2
              obtain ⟨b2, o2, rfl, hb2, d1⟩ := HI1.out.at hja
              have hxb := HFin.out.2 _ (List.getElem_mem hja)
              obtain ⟨x, Hx⟩ : ∃ x, Hid (x = af[j]) := ⟨_, Lib.hid rfl⟩
              rw [← Hx.out] at d1 hxb
              have HBad2 : Hid (∀ (hb : Tsk.stepB n af j = false), r = false) := Lib.hid fun hb => by
                refine HBad.out ?_
                cases h : Tsk.fineTB n ⟨hh, sk, ba, af⟩
                · rfl
                · have h2 := Tsk.fineB_iff.1 (Tsk.fineTB_iff.1 h).2 j hja
                  rw [hb] at h2; cases h2
              have hgx : af.getD j 0 = x := by rw [Tsk.getD_get hja, Hx.out]
              have HGx := Lib.hid hgx
              clear hgx
              by_cases hx0 : x < 0
              · have HE : Hid (r = false) := Lib.hid (HBad2.out (by
                  cases h : Tsk.stepB n af j
                  · rfl
                  · have := (Tsk.stepB_iff.1 h).1; rw [HGx.out] at this; omega))
                go_wp2
                go_ret
                exact ⟨ret_bool HE.out.symm, HB1.out⟩
              · by_cases hx1 : (n : Int) ≤ x
                · have HE : Hid (r = false) := Lib.hid (HBad2.out (by
                    cases h : Tsk.stepB n af j
                    · rfl
                    · have := (Tsk.stepB_iff.1 h).2.1; rw [HGx.out] at this; omega))
                  go_wp2
                  go_ret
                  exact ⟨ret_bool HE.out.symm, HB1.out⟩
                · by_cases hj0 : j = 0
                  · have HE : Hid (Tsk.stepB n af j = true) := Lib.hid (Tsk.stepB_iff.2 ⟨by rw [HGx.out]; omega, by rw [HGx.out]; omega, Or.inl hj0⟩)
                    subst hj0
                    rw [Nat.add_zero] at d1
                    go_wp2
                    go_round
                    case rel => exact ⟨1, by omega, by go_num, Lib.hid fun q hq => by obtain rfl : q = 0 := (by omega); exact HE.out⟩
                    case measure => simp [intOf]; omega
                  · obtain ⟨i, rfl⟩ : ∃ i, j = i + 1 := ⟨j - 1, by omega⟩
                    have hia : i < af.length := by omega
                    obtain ⟨b3, o3, he3, hb3, d2⟩ := HI1.out.at hia
                    simp only [Option.some.injEq, Addr.mk.injEq, and_true] at he3
                    obtain ⟨rfl, rfl⟩ := he3
                    obtain ⟨y, Hy⟩ : ∃ x, Hid (x = af[i]) := ⟨_, Lib.hid rfl⟩
                    rw [← Hy.out] at d2
                    have hgy : af.getD i 0 = y := by rw [Tsk.getD_get hia, Hy.out]
                    have HGy := Lib.hid hgy
                    clear hgy
                    have e1 : (((i + 1 : Nat) : Int) - 1) = (i : Int) := by omega
                    have hpos : (0 : Int) < ((i + 1 : Nat) : Int) := by omega
                    have him : (i : Int) < m := by omega
                    by_cases hxy : x ≤ y
                    · have HE : Hid (r = false) := Lib.hid (HBad2.out (by
                        cases h : Tsk.stepB n af (i + 1)
                        · rfl
                        · have := (Tsk.stepB_iff.1 h).2.2
                          rw [HGx.out, show i + 1 - 1 = i by omega, HGy.out] at this; omega))
                      go_wp2
                      go_ret
                      exact ⟨ret_bool HE.out.symm, HB1.out⟩
                    · have HE : Hid (Tsk.stepB n af (i + 1) = true) := Lib.hid (Tsk.stepB_iff.2 ⟨by rw [HGx.out]; omega, by rw [HGx.out]; omega, Or.inr (by rw [HGx.out, show i + 1 - 1 = i by omega, HGy.out]; omega)⟩)
                      go_wp2
                      go_round
                      case rel => exact ⟨i + 1 + 1, by omega, by go_num, Lib.hid fun q hq => by
                        by_cases e : q = i + 1
                        · subst e; exact HE.out
                        · exact HS.out q (by omega)⟩
                      case measure => simp [intOf]; omega
            · have HE : Hid (Tsk.fineTB n l[k] = true) := Lib.hid (by
                rw [← Ht.out]
                exact Tsk.fineTB_iff.2 ⟨HHead.out, Tsk.fineB_iff.2 fun q hq => HS.out q (by have := Hm.out; simp only at hq; omega)⟩)
              obtain rfl : m = j := by omega
              go_wp2
              go_roundw
              case rel => exact ⟨k + 1, by omega, by go_num, HB1, Lib.hid fun q h1 h2 => by
                by_cases e : q = k
                · subst e; exact HE.out
                · exact HA.out q h1 (by omega)⟩
              case measure => simp [intOf]; omega
        all_goals
          have HE : Hid (r = false) := Lib.hid (HBad.out (by
            cases h : Tsk.fineTB n ⟨hh, sk, ba, af⟩
            · rfl
            · have := Tsk.headB_iff.1 (Tsk.fineTB_iff.1 h).1
              simp only at this
              omega))
          go_wp2
          go_ret
          exact ⟨ret_bool HE.out.symm, below_alloc HB.out _⟩
      · have HE : Hid (r = true) := Lib.hid (by
          rw [Hr.out]
          refine Tsk.validB_iff.2 ⟨by have := Hn.out; omega, fun t ht => ?_⟩
          obtain ⟨j, hj, rfl⟩ := List.getElem_of_mem ht
          rw [← Hn.out]
          exact HA.out j hj (by have := Hn.out; omega))
        obtain rfl : n = k := by omega
        go_wp2
        go_ret
        exact ⟨ret_bool HE.out.symm, HB.out⟩

end Go.Proofs.Ytejgbfaampllaaa
