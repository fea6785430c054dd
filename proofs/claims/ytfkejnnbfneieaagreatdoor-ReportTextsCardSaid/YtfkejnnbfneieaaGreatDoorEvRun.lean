/- The reference's Same of lists of events. -/
import Derived.Test.YtfkejnnbfneieaaGreatDoorEvEq
namespace Go.Proofs.YtfkejnnbfneieaaGreatDoor
open Go.RowKit
open Evt

namespace Evt
theorem ext_take {α : Type} {l m : List α} {k : Nat} (h : l.take k = m.take k) (hl : k < l.length) (hm : k < m.length) (e : l[k] = m[k]) : l.take (k + 1) = m.take (k + 1) := by
  rw [← List.take_append_getElem hl, ← List.take_append_getElem hm, h, e]
noncomputable def evsB (l m : List Ev) : Bool := by classical exact decide (l = m)
theorem evsB_iff {l m : List Ev} : evsB l m = true ↔ l = m := by unfold evsB; simp
theorem evsB_no {l m : List Ev} (h : l ≠ m) : evsB l m = false := by
  cases hq : evsB l m with
  | false => rfl
  | true => exact absurd (evsB_iff.1 hq) h
end Evt

def s9P (ba oa ca bb ob cb n k : Nat) (x y : Ev) : Nat → Value → World → Prop
  | 0, v, _ => v = .slice (some ⟨ba, oa, none⟩) n ca
  | 1, v, _ => v = .int .i64 k
  | 2, v, _ => v = .pointer (some ⟨ba, oa + k * 14, none⟩)
  | 3, v, _ => v = .agg (evC x).toArray
  | 4, v, _ => v = .slice (some ⟨bb, ob, none⟩) n cb
  | 5, v, _ => v = .int .i64 k
  | 6, v, _ => v = .pointer (some ⟨bb, ob + k * 14, none⟩)
  | 7, v, _ => v = .agg (evC y).toArray
  | 8, v, _ => v = .bool (!evEq x y)
  | _, _, _ => True
theorem s9P_below {ba oa ca bb ob cb n k : Nat} {x y : Ev} : ∀ j u w w', s9P ba oa ca bb ob cb n k x y j u w → Below w.heap.size w w' → s9P ba oa ca bb ob cb n k x y j u w'
  | 0, _, _, _, h, _ => h
  | 1, _, _, _, h, _ => h
  | 2, _, _, _, h, _ => h
  | 3, _, _, _, h, _ => h
  | 4, _, _, _, h, _ => h
  | 5, _, _, _, h, _ => h
  | 6, _, _, _, h, _ => h
  | 7, _, _, _, h, _ => h
  | 8, _, _, _, h, _ => h
  | _ + 9, _, _, _, _, _ => trivial
set_option maxRecDepth 100000 in
set_option maxHeartbeats 4000000 in
theorem same09_any (l m : List Ev) (hl : l.length ≤ 1000000) (hm : m.length ≤ 1000000) (ao bo : Option Addr) (ca cb : Nat) (W : World) (ha : IsL 14 ElEv W ao l) (hb : IsL 14 ElEv W bo m) :
    Calls Tryz.prog 11 #[.slice ao l.length ca, .slice bo m.length cb] W fun e w' => e = .returned (.bool (evsB l m)) ∧ Below W.heap.size W w' := by
  have HA := Lib.hid ha
  have HB := Lib.hid hb
  clear ha hb
  obtain ⟨R, HR0⟩ : ∃ b, Hid (b = evsB l m) := ⟨_, Lib.hid rfl⟩
  obtain ⟨n, Hn⟩ : ∃ n, Hid (n = l.length) := ⟨_, Lib.hid rfl⟩
  obtain ⟨n', Hn'⟩ : ∃ n, Hid (n = m.length) := ⟨_, Lib.hid rfl⟩
  rw [← HR0.out, ← Hn.out, ← Hn'.out]
  rw [← Hn.out] at hl
  rw [← Hn'.out] at hm
  by_cases hnm : n = n'
  case neg =>
    have hd : ((n : Int) == n') = false := by simp; omega
    have hd' : ((n : Int) != n') = true := by simp; omega
    obtain rfl : R = false := by
      rw [HR0.out]
      exact evsB_no (fun h => hnm (by rw [Hn.out, Hn'.out, h]))
    go_enter Tryz.func11, Tryz.ntmps11
    go_wp2_with fail
    go_ret
    exact ⟨rfl, Below.refl _ _⟩
  subst hnm
  have hd : ((n : Int) == n) = true := by simp
  have hd' : ((n : Int) != n) = false := by simp
  go_enter Tryz.func11, Tryz.ntmps11
  go_wp2_with fail
  go_loopw [5] (fun i wr => ∃ k : Nat, k ≤ n ∧ i = .int .i64 k ∧ Hid (Below W.heap.size W wr ∧ l.take k = m.take k)) (fun i _ => n - (intOf i).toNat)
  case atStart => exact ⟨0, Nat.zero_le _, by go_num, Lib.hid ⟨Below.refl _ _, by simp⟩⟩
  case round =>
    obtain ⟨k, hk, rfl, HR⟩ := hrel
    by_cases hkn : k < n
    · have hd2 : decide ((k : Int) < n) = true := decide_eq_true (by omega)
      have hb0 : (0 : Int) ≤ k := by omega
      have hb1 : (k : Int) < n := by omega
      have hkl : k < l.length := by rw [← Hn.out]; exact hkn
      have hkm : k < m.length := by rw [← Hn'.out]; exact hkn
      obtain ⟨ba, oa, cs1, rfl, hba, hra, rfl, hsx⟩ := HA.out.at hkl
      obtain ⟨bb, ob, cs2, rfl, hbb, hrb, rfl, hsy⟩ := HB.out.at hkm
      obtain ⟨x, Hx⟩ : ∃ x, Hid (x = l[k]) := ⟨_, Lib.hid rfl⟩
      obtain ⟨y, Hy⟩ : ∃ x, Hid (x = m[k]) := ⟨_, Lib.hid rfl⟩
      rw [← Hx.out] at hra hsx
      rw [← Hy.out] at hrb hsy
      have HSz := Lib.hid (And.intro hsx hsy)
      have HRx := Lib.hid (fun w (hw : Below wr.heap.size wr w) => rangeB hra hba (below_step HR.out.1 hw))
      have HRy := Lib.hid (fun w (hw : Below wr.heap.size wr w) => rangeB hrb hbb (below_step HR.out.1 hw))
      clear hra hrb hsx hsy hba hbb
      go_wp2_with fail
      apply wp_region_monoG 26 (s9P ba oa ca bb ob cb n k x y) s9P_below (by kernel_rfl) (by kernel_rfl) rfl
      · intro i o g b ho hgd u w hu
        have hi : i < 9 := by have := (List.getElem?_eq_some_iff.1 ho).1; simpa using this
        have hi : i = 0 ∨ i = 1 ∨ i = 2 ∨ i = 3 ∨ i = 4 ∨ i = 5 ∨ i = 6 ∨ i = 7 ∨ i = 8 := by omega
        rcases hi with rfl | rfl | rfl | rfl | rfl | rfl | rfl | rfl | rfl
        all_goals
          simp only [List.getElem?_cons_succ, List.getElem?_cons_zero, Option.some.injEq] at ho
          subst ho
          cases hgd
          all_goals exact hu
      · intro i o ho w A' hlow hsee haway
        have q0 : A'.eval (.tmp 0) = .slice (some ⟨ba, oa, none⟩) n ca := (haway 0 (by kernel_rfl)).trans rfl
        have q1 : A'.eval (.tmp 1) = .slice (some ⟨bb, ob, none⟩) n cb := (haway 1 (by kernel_rfl)).trans rfl
        have q5 : A'.eval (.tmp 5) = .int .i64 k := (haway 5 (by kernel_rfl)).trans rfl
        have hi : i < 9 := by have := (List.getElem?_eq_some_iff.1 ho).1; simpa using this
        have hi : i = 0 ∨ i = 1 ∨ i = 2 ∨ i = 3 ∨ i = 4 ∨ i = 5 ∨ i = 6 ∨ i = 7 ∨ i = 8 := by omega
        rcases hi with rfl | rfl | rfl | rfl | rfl | rfl | rfl | rfl | rfl
        all_goals
          simp only [List.getElem?_cons_succ, List.getElem?_cons_zero, Option.some.injEq] at ho
          subst ho
        · exact wp_of_runL (rMove _ _ _ _ _ A' w (.tmp 0) _ q0) ⟨_, rfl, Below.refl _ _, rfl⟩
        · exact wp_of_runL (rMove _ _ _ _ _ A' w (.tmp 5) _ q5) ⟨_, rfl, Below.refl _ _, rfl⟩
        · have q17 : A'.eval (.tmp 17) = .slice (some ⟨ba, oa, none⟩) n ca := hsee 17 0 (by kernel_rfl) (by kernel_rfl)
          have q18 : A'.eval (.tmp 18) = .int .i64 k := hsee 18 1 (by kernel_rfl) (by kernel_rfl)
          exact wp_of_runL (rIndex _ _ _ _ _ A' w 26 50 14 (.tmp 17) (.tmp 18) ba oa n ca k k Tryz.underlying26 (by kernel_rfl) (by omega) (by omega) q17 q18) ⟨_, rfl, Below.refl _ _, rfl⟩
        · have q19 : A'.eval (.tmp 19) = .pointer (some ⟨ba, oa + k * 14, none⟩) := hsee 19 2 (by kernel_rfl) (by kernel_rfl)
          exact wp_of_runL (rLoad _ _ _ _ _ A' w 50 (.tmp 19) ba _ (evC x) _ (HRx.out w hlow) Tryz.underlying50 rfl (by kernel_rfl) q19) ⟨_, rfl, Below.refl _ _, rfl⟩
        · exact wp_of_runL (rMove _ _ _ _ _ A' w (.tmp 1) _ q1) ⟨_, rfl, Below.refl _ _, rfl⟩
        · exact wp_of_runL (rMove _ _ _ _ _ A' w (.tmp 5) _ q5) ⟨_, rfl, Below.refl _ _, rfl⟩
        · have q21 : A'.eval (.tmp 21) = .slice (some ⟨bb, ob, none⟩) n cb := hsee 21 4 (by kernel_rfl) (by kernel_rfl)
          have q22 : A'.eval (.tmp 22) = .int .i64 k := hsee 22 5 (by kernel_rfl) (by kernel_rfl)
          exact wp_of_runL (rIndex _ _ _ _ _ A' w 26 50 14 (.tmp 21) (.tmp 22) bb ob n cb k k Tryz.underlying26 (by kernel_rfl) (by omega) (by omega) q21 q22) ⟨_, rfl, Below.refl _ _, rfl⟩
        · have q23 : A'.eval (.tmp 23) = .pointer (some ⟨bb, ob + k * 14, none⟩) := hsee 23 6 (by kernel_rfl) (by kernel_rfl)
          exact wp_of_runL (rLoad _ _ _ _ _ A' w 50 (.tmp 23) bb _ (evC y) _ (HRy.out w hlow) Tryz.underlying50 rfl (by kernel_rfl) q23) ⟨_, rfl, Below.refl _ _, rfl⟩
        · have q20 : A'.eval (.tmp 20) = .agg (evC x).toArray := hsee 20 3 (by kernel_rfl) (by kernel_rfl)
          have q24 : A'.eval (.tmp 24) = .agg (evC y).toArray := hsee 24 7 (by kernel_rfl) (by kernel_rfl)
          exact wp_of_runL (run_neqEv _ _ _ _ _ A' w (.tmp 20) (.tmp 24) x y HSz.out.1 HSz.out.2 q20 q24) ⟨_, rfl, Below.refl _ _, rfl⟩
      intro e wz hlow hall
      obtain ⟨v0, e0, -⟩ := hall 0 (by decide)
      obtain ⟨v1, e1, -⟩ := hall 1 (by decide)
      obtain ⟨v2, e2, -⟩ := hall 2 (by decide)
      obtain ⟨v3, e3, -⟩ := hall 3 (by decide)
      obtain ⟨v4, e4, -⟩ := hall 4 (by decide)
      obtain ⟨v5, e5, -⟩ := hall 5 (by decide)
      obtain ⟨v6, e6, -⟩ := hall 6 (by decide)
      obtain ⟨v7, e7, -⟩ := hall 7 (by decide)
      obtain ⟨v8, e8, h8⟩ := hall 8 (by decide)
      have h8' : v8 = .bool (!evEq x y) := h8
      subst h8'
      clear h8
      have HLow := Lib.hid hlow
      simp only [List.length_cons, List.length_nil, Nat.reduceAdd, fillTo, e0, e1, e2, e3, e4, e5, e6, e7, e8, dstOf]
      clear e0 e1 e2 e3 e4 e5 e6 e7 e8 hlow hall
      go_simp
      have HBz := Lib.hid (below_step HR.out.1 HLow.out)
      cases hq : evEq x y with
      | false =>
        have hq' : (!evEq x y) = true := by rw [hq]; rfl
        obtain rfl : R = false := by
          rw [HR0.out]
          refine evsB_no (fun h => ?_)
          have : x = y := by rw [Hx.out, Hy.out]; simp only [h]
          rw [evEq_iff.2 this] at hq
          cases hq
        go_wp2_with fail
        go_ret
        exact ⟨rfl, HBz.out⟩
      | true =>
        have hq' : (!evEq x y) = false := by rw [hq]; rfl
        have HNx : Hid (l.take (k + 1) = m.take (k + 1)) := Lib.hid (ext_take HR.out.2 hkl hkm (by rw [← Hx.out, ← Hy.out]; exact evEq_iff.1 hq))
        go_wp2_with fail
        go_round
        case rel => exact ⟨k + 1, by omega, by go_num, Lib.hid ⟨HBz.out, HNx.out⟩⟩
        case measure => simp [intOf]; omega
    · obtain rfl : k = n := by omega
      have hd2 : decide ((k : Int) < k) = false := decide_eq_false (by omega)
      obtain rfl : R = true := by
        rw [HR0.out]
        refine evsB_iff.2 ?_
        have h := HR.out.2
        rw [List.take_of_length_le (by rw [← Hn.out]; omega), List.take_of_length_le (by rw [← Hn'.out]; omega)] at h
        exact h
      go_wp2_with fail
      go_ret
      exact ⟨rfl, HR.out.1⟩
end Go.Proofs.YtfkejnnbfneieaaGreatDoor
