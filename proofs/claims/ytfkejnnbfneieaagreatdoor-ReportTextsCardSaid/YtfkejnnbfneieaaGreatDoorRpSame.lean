/- The reference's Same of reports. -/
import Derived.Test.YtfkejnnbfneieaaGreatDoorEvRun
import Derived.Test.YtfkejnnbfneieaaGreatDoorEvEq
import Derived.Test.YtfkejnnbfneieaaGreatDoorJoin
import Derived.Test.YtfkejnnbfneieaaGreatDoorEvtIs
namespace Go.Proofs.YtfkejnnbfneieaaGreatDoor
open Go.RowKit
open Evt

namespace Evt
noncomputable def rpB (a b : Rp) : Bool := by classical exact decide (a = b)
theorem rpB_iff {a b : Rp} : rpB a b = true ↔ a = b := by unfold rpB; simp
theorem rpB_no {a b : Rp} (h : a ≠ b) : rpB a b = false := by
  cases hq : rpB a b with
  | false => rfl
  | true => exact absurd (rpB_iff.1 hq) h
end Evt
def s13P (A B ba oa' ca bb ob cb n k : Nat) (x y : Ev) : Nat → Value → World → Prop
  | 0, v, _ => v = .pointer (some ⟨A, 0, none⟩)
  | 1, v, _ => v = .slice (some ⟨ba, oa', none⟩) n ca
  | 2, v, _ => v = .int .i64 k
  | 3, v, _ => v = .pointer (some ⟨ba, oa' + k * 14, none⟩)
  | 4, v, _ => v = .agg (evC x).toArray
  | 5, v, _ => v = .pointer (some ⟨B, 0, none⟩)
  | 6, v, _ => v = .slice (some ⟨bb, ob, none⟩) n cb
  | 7, v, _ => v = .int .i64 k
  | 8, v, _ => v = .pointer (some ⟨bb, ob + k * 14, none⟩)
  | 9, v, _ => v = .agg (evC y).toArray
  | 10, v, _ => v = .bool (!evEq x y)
  | _, _, _ => True
theorem s13P_below {A B ba oa' ca bb ob cb n k : Nat} {x y : Ev} : ∀ j u w w', s13P A B ba oa' ca bb ob cb n k x y j u w → Below w.heap.size w w' → s13P A B ba oa' ca bb ob cb n k x y j u w'
  | 0, _, _, _, h, _ => h
  | 1, _, _, _, h, _ => h
  | 2, _, _, _, h, _ => h
  | 3, _, _, _, h, _ => h
  | 4, _, _, _, h, _ => h
  | 5, _, _, _, h, _ => h
  | 6, _, _, _, h, _ => h
  | 7, _, _, _, h, _ => h
  | 8, _, _, _, h, _ => h
  | 9, _, _, _, h, _ => h
  | 10, _, _, _, h, _ => h
  | _ + 11, _, _, _, _, _ => trivial
set_option maxRecDepth 100000 in
set_option maxHeartbeats 4000000 in
theorem same13_any (a b : Rp) (oa ob' : Option Addr) (ca cb : Nat) (hl : a.opts.length ≤ 1000000) (hm : b.opts.length ≤ 1000000) (W : World) (ha : IsL 14 ElEv W oa a.opts) (hb : IsL 14 ElEv W ob' b.opts) :
    Calls Tryz.prog 12 #[.agg #[.slice oa a.opts.length ca, .bool a.doubt], .agg #[.slice ob' b.opts.length cb, .bool b.doubt]] W fun e w' => e = .returned (.bool (rpB a b)) ∧ Below W.heap.size W w' := by
  obtain ⟨R, HR0⟩ : ∃ r, Hid (r = rpB a b) := ⟨_, Lib.hid rfl⟩
  rw [← HR0.out]
  obtain ⟨l, x1⟩ := a
  obtain ⟨m, x2⟩ := b
  dsimp only at ha hb hl hm ⊢
  obtain ⟨V, HV⟩ : ∃ V, Hid (V = (W.alloc (.cells #[.slice oa l.length ca, .bool x1] 31)).alloc (.cells #[.slice ob' m.length cb, .bool x2] 31)) := ⟨_, Lib.hid rfl⟩
  obtain ⟨A, HAa⟩ : ∃ N, Hid (N = W.heap.size) := ⟨_, Lib.hid rfl⟩
  obtain ⟨B, HBb⟩ : ∃ N, Hid (N = A + 1) := ⟨_, Lib.hid rfl⟩
  have hBV : Below W.heap.size W V := by rw [HV.out]; exact ((Below.refl _ _).alloc (Nat.le_refl _) _).alloc (by rw [size_alloc]; omega) _
  have HBV := Lib.hid hBV
  have HWA : Hid (Whole V A 31 #[.slice oa l.length ca, .bool x1]) := Lib.hid (by rw [HV.out, HAa.out]; exact (Whole.new _ _ _).alloc _)
  have HWB : Hid (Whole V B 31 #[.slice ob' m.length cb, .bool x2]) := Lib.hid (by
    have := Whole.new (W.alloc (.cells #[.slice oa l.length ca, .bool x1] 31)) 31 #[.slice ob' m.length cb, .bool x2]
    rw [size_alloc] at this
    rw [HV.out, HBb.out, HAa.out]; exact this)
  have HA := Lib.hid (ha.below stEv hBV)
  have HB := Lib.hid (hb.below stEv hBV)
  clear ha hb hBV
  obtain ⟨n, Hn⟩ : ∃ n, Hid (n = l.length) := ⟨_, Lib.hid rfl⟩
  obtain ⟨n', Hn'⟩ : ∃ n, Hid (n = m.length) := ⟨_, Lib.hid rfl⟩
  rw [← Hn.out] at hl HWA HV
  rw [← Hn'.out] at hm HWB HV
  rw [← Hn.out, ← Hn'.out]
  have a0 : V.cell? ⟨A, 0, none⟩ = some (.slice oa n ca) := HWA.out.cell 0
  have a1 : V.cell? ⟨A, 1, none⟩ = some (.bool x1) := HWA.out.cell 1
  have b0 : V.cell? ⟨B, 0, none⟩ = some (.slice ob' n' cb) := HWB.out.cell 0
  have b1 : V.cell? ⟨B, 1, none⟩ = some (.bool x2) := HWB.out.cell 1
  obtain ⟨nb, Hnb⟩ : ∃ q, Hid (q = (x1 != x2 || (n : Int) != (n' : Int))) := ⟨_, Lib.hid rfl⟩
  go_enter Tryz.func12, Tryz.ntmps12
  go_wp2_with (first
    | (with_reducible show wpList _ _ _ (Oper.mk _ (Op.load 4 _) _ _ _ _ :: _) _ _; refine Hid.out ?_))
  refine Lib.hid ?_
  rw [← HV.out, ← HAa.out, ← HBb.out]
  refine wpList_join (fun u w' => u 19 = .bool nb ∧ V = w') [7, 8, 9, 10, 11, 12, 13, 14, 15, 16, 17, 18, 19] (by kernel_rfl) ?_ ?_
  · obtain ⟨q, hq⟩ : ∃ q, ((n : Int) != (n' : Int)) = q := ⟨_, rfl⟩
    have HQ := Lib.hid hq
    cases x1
    all_goals cases x2
    all_goals
      go_wp2_with fail
      exact join_end rfl ⟨by rw [Hnb.out, HQ.out]; rfl, rfl⟩
  rintro u w' ⟨eu, rfl⟩
  simp only [refill, eu]
  clear eu
  go_simp
  cases nb with
  | true =>
    obtain rfl : R = false := by
      rw [HR0.out]
      refine rpB_no (fun h => ?_)
      cases h
      have h1 := Hnb.out
      rw [Hn.out, Hn'.out] at h1
      simp at h1
    clear a0 a1 b0 b1
    go_wp2_with fail
    go_ret
    exact ⟨rfl, HBV.out⟩
  | false =>
  have hx : x1 = x2 := by
    have h1 := Hnb.out
    cases x1 <;> cases x2 <;> first | rfl | (simp at h1)
  obtain rfl : n = n' := by
    have h1 := Hnb.out
    simp at h1
    omega
  subst hx
  clear a0 a1 b0 b1
  go_wp2_with fail
  go_loopw [5] (fun i wr => ∃ k : Nat, k ≤ n ∧ i = .int .i64 k ∧ Hid (Below V.heap.size V wr ∧ l.take k = m.take k)) (fun i _ => n - (intOf i).toNat)
  case atStart => exact ⟨0, Nat.zero_le _, by go_num, Lib.hid ⟨Below.refl _ _, rfl⟩⟩
  case round =>
    obtain ⟨k, hk, rfl, HR⟩ := hrel
    have HBr := Lib.hid (below_step HBV.out HR.out.1)
    have a0 : wr.cell? ⟨A, 0, none⟩ = some (.slice oa n ca) := (whole_belowM HWA.out HR.out.1).cell 0
    by_cases hkn : k < n
    · have hd : decide ((k : Int) < n) = true := decide_eq_true (by omega)
      have hkl : k < l.length := by rw [← Hn.out]; exact hkn
      have hkm : k < m.length := by rw [← Hn'.out]; exact hkn
      obtain ⟨ba, oa', cs, rfl, hba, hra, rfl, hsa⟩ := HA.out.at hkl
      obtain ⟨bb, ob, cs', rfl, hbb, hrb, rfl, hsb⟩ := HB.out.at hkm
      obtain ⟨x, Hx⟩ : ∃ z, Hid (z = l[k]) := ⟨_, Lib.hid rfl⟩
      obtain ⟨y, Hy⟩ : ∃ z, Hid (z = m[k]) := ⟨_, Lib.hid rfl⟩
      rw [← Hx.out] at hra hsa
      rw [← Hy.out] at hrb hsb
      have HSz := Lib.hid (And.intro hsa hsb)
      have HRx : Hid (∀ w, Below wr.heap.size wr w → w.rangeAt ba (oa' + k * 14) (evC x)) := Lib.hid (fun w hw => rangeB hra hba (below_step HR.out.1 hw))
      have HRy : Hid (∀ w, Below wr.heap.size wr w → w.rangeAt bb (ob + k * 14) (evC y)) := Lib.hid (fun w hw => rangeB hrb hbb (below_step HR.out.1 hw))
      have HA0 : Hid (∀ w, Below wr.heap.size wr w → w.cell? ⟨A, 0, none⟩ = some (.slice (some ⟨ba, oa', none⟩) n ca)) := Lib.hid (fun w hw => (whole_belowM HWA.out (below_step HR.out.1 hw)).cell 0)
      have HB0 : Hid (∀ w, Below wr.heap.size wr w → w.cell? ⟨B, 0, none⟩ = some (.slice (some ⟨bb, ob, none⟩) n cb)) := Lib.hid (fun w hw => (whole_belowM HWB.out (below_step HR.out.1 hw)).cell 0)
      clear hra hrb hsa hsb hba hbb
      go_wp2_with fail
      apply wp_region_monoG 38 (s13P A B ba oa' ca bb ob cb n k x y) s13P_below (by kernel_rfl) (by kernel_rfl) rfl
      · intro i o g b ho hgd u w hu
        have hi : i < 11 := by have := (List.getElem?_eq_some_iff.1 ho).1; simpa using this
        have hi : i = 0 ∨ i = 1 ∨ i = 2 ∨ i = 3 ∨ i = 4 ∨ i = 5 ∨ i = 6 ∨ i = 7 ∨ i = 8 ∨ i = 9 ∨ i = 10 := by omega
        rcases hi with rfl | rfl | rfl | rfl | rfl | rfl | rfl | rfl | rfl | rfl | rfl
        all_goals
          simp only [List.getElem?_cons_succ, List.getElem?_cons_zero, Option.some.injEq] at ho
          subst ho
          cases hgd
          all_goals exact hu
      · intro i o ho w A' hlow hsee haway
        have q2 : A'.eval (.tmp 2) = .pointer (some ⟨A, 0, none⟩) := (haway 2 (by kernel_rfl)).trans rfl
        have q3 : A'.eval (.tmp 3) = .pointer (some ⟨B, 0, none⟩) := (haway 3 (by kernel_rfl)).trans rfl
        have q5 : A'.eval (.tmp 5) = .int .i64 k := (haway 5 (by kernel_rfl)).trans rfl
        have hi : i < 11 := by have := (List.getElem?_eq_some_iff.1 ho).1; simpa using this
        have hi : i = 0 ∨ i = 1 ∨ i = 2 ∨ i = 3 ∨ i = 4 ∨ i = 5 ∨ i = 6 ∨ i = 7 ∨ i = 8 ∨ i = 9 ∨ i = 10 := by omega
        rcases hi with rfl | rfl | rfl | rfl | rfl | rfl | rfl | rfl | rfl | rfl | rfl
        all_goals
          simp only [List.getElem?_cons_succ, List.getElem?_cons_zero, Option.some.injEq] at ho
          subst ho
        · exact wp_of_runL (rField _ _ _ _ _ A' w 31 (.tmp 2) 0 A 0 0 _ _ Tryz.underlying31 rfl (by kernel_rfl) rfl (by kernel_rfl) q2) ⟨_, rfl, Below.refl _ _, rfl⟩
        · have q27 : A'.eval (.tmp 27) = .pointer (some ⟨A, 0, none⟩) := hsee 27 0 (by kernel_rfl) (by kernel_rfl)
          exact wp_of_runL (rLoad1 _ _ _ _ _ A' w 26 (.tmp 27) _ _ _ Tryz.underlying26 rfl (HA0.out w hlow) q27) ⟨_, rfl, Below.refl _ _, rfl⟩
        · exact wp_of_runL (rMove _ _ _ _ _ A' w (.tmp 5) _ q5) ⟨_, rfl, Below.refl _ _, rfl⟩
        · have q28 : A'.eval (.tmp 28) = .slice (some ⟨ba, oa', none⟩) n ca := hsee 28 1 (by kernel_rfl) (by kernel_rfl)
          have q29 : A'.eval (.tmp 29) = .int .i64 k := hsee 29 2 (by kernel_rfl) (by kernel_rfl)
          exact wp_of_runL (rIndex _ _ _ _ _ A' w 26 50 14 (.tmp 28) (.tmp 29) ba oa' n ca k k Tryz.underlying26 (by kernel_rfl) (by omega) (by omega) q28 q29) ⟨_, rfl, Below.refl _ _, rfl⟩
        · have q30 : A'.eval (.tmp 30) = .pointer (some ⟨ba, oa' + k * 14, none⟩) := hsee 30 3 (by kernel_rfl) (by kernel_rfl)
          exact wp_of_runL (rLoad _ _ _ _ _ A' w 50 (.tmp 30) ba _ (evC x) _ (HRx.out w hlow) Tryz.underlying50 rfl (by kernel_rfl) q30) ⟨_, rfl, Below.refl _ _, rfl⟩
        · exact wp_of_runL (rField _ _ _ _ _ A' w 31 (.tmp 3) 0 B 0 0 _ _ Tryz.underlying31 rfl (by kernel_rfl) rfl (by kernel_rfl) q3) ⟨_, rfl, Below.refl _ _, rfl⟩
        · have q32 : A'.eval (.tmp 32) = .pointer (some ⟨B, 0, none⟩) := hsee 32 5 (by kernel_rfl) (by kernel_rfl)
          exact wp_of_runL (rLoad1 _ _ _ _ _ A' w 26 (.tmp 32) _ _ _ Tryz.underlying26 rfl (HB0.out w hlow) q32) ⟨_, rfl, Below.refl _ _, rfl⟩
        · exact wp_of_runL (rMove _ _ _ _ _ A' w (.tmp 5) _ q5) ⟨_, rfl, Below.refl _ _, rfl⟩
        · have q33 : A'.eval (.tmp 33) = .slice (some ⟨bb, ob, none⟩) n cb := hsee 33 6 (by kernel_rfl) (by kernel_rfl)
          have q34 : A'.eval (.tmp 34) = .int .i64 k := hsee 34 7 (by kernel_rfl) (by kernel_rfl)
          exact wp_of_runL (rIndex _ _ _ _ _ A' w 26 50 14 (.tmp 33) (.tmp 34) bb ob n cb k k Tryz.underlying26 (by kernel_rfl) (by omega) (by omega) q33 q34) ⟨_, rfl, Below.refl _ _, rfl⟩
        · have q35 : A'.eval (.tmp 35) = .pointer (some ⟨bb, ob + k * 14, none⟩) := hsee 35 8 (by kernel_rfl) (by kernel_rfl)
          exact wp_of_runL (rLoad _ _ _ _ _ A' w 50 (.tmp 35) bb _ (evC y) _ (HRy.out w hlow) Tryz.underlying50 rfl (by kernel_rfl) q35) ⟨_, rfl, Below.refl _ _, rfl⟩
        · have q31 : A'.eval (.tmp 31) = .agg (evC x).toArray := hsee 31 4 (by kernel_rfl) (by kernel_rfl)
          have q36 : A'.eval (.tmp 36) = .agg (evC y).toArray := hsee 36 9 (by kernel_rfl) (by kernel_rfl)
          exact wp_of_runL (run_neqEv _ _ _ _ _ A' w (.tmp 31) (.tmp 36) x y HSz.out.1 HSz.out.2 q31 q36) ⟨_, rfl, Below.refl _ _, rfl⟩
      intro e wz hlow hall
      obtain ⟨v0, e0, -⟩ := hall 0 (by decide)
      obtain ⟨v1, e1, -⟩ := hall 1 (by decide)
      obtain ⟨v2, e2, -⟩ := hall 2 (by decide)
      obtain ⟨v3, e3, -⟩ := hall 3 (by decide)
      obtain ⟨v4, e4, -⟩ := hall 4 (by decide)
      obtain ⟨v5, e5, -⟩ := hall 5 (by decide)
      obtain ⟨v6, e6, -⟩ := hall 6 (by decide)
      obtain ⟨v7, e7, -⟩ := hall 7 (by decide)
      obtain ⟨v8, e8, -⟩ := hall 8 (by decide)
      obtain ⟨v9, e9, -⟩ := hall 9 (by decide)
      obtain ⟨v10, e10, h10⟩ := hall 10 (by decide)
      have h10' : v10 = .bool (!evEq x y) := h10
      subst h10'
      clear h10
      have HLow := Lib.hid hlow
      simp only [List.length_cons, List.length_nil, Nat.reduceAdd, fillTo, e0, e1, e2, e3, e4, e5, e6, e7, e8, e9, e10, dstOf]
      clear e0 e1 e2 e3 e4 e5 e6 e7 e8 e9 e10 hlow hall
      go_simp
      have HBz := Lib.hid (below_step HBr.out HLow.out)
      have HBz2 := Lib.hid (below_step HR.out.1 HLow.out)
      obtain ⟨q, Hq⟩ : ∃ q, Hid (q = evEq x y) := ⟨_, Lib.hid rfl⟩
      rw [← Hq.out]
      clear a0
      cases q with
      | false =>
        obtain rfl : R = false := by
          rw [HR0.out]
          refine rpB_no (fun h => ?_)
          cases h
          have h1 := Hq.out
          rw [Hx.out, Hy.out, evEq_iff.2 rfl] at h1
          cases h1
        go_wp2_with fail
        go_ret
        exact ⟨rfl, HBz.out⟩
      | true =>
        have HTk : Hid (l.take (k + 1) = m.take (k + 1)) := Lib.hid (by
          have h1 : x = y := evEq_iff.1 Hq.out.symm
          rw [List.take_succ_eq_append_getElem hkl, List.take_succ_eq_append_getElem hkm, HR.out.2, ← Hx.out, ← Hy.out, h1])
        go_wp2_with fail
        go_roundw
        case rel => exact ⟨k + 1, by omega, by go_num, Lib.hid ⟨HBz2.out, HTk.out⟩⟩
        case measure => simp [intOf]; omega
    · obtain rfl : k = n := by omega
      have hd : decide ((k : Int) < k) = false := decide_eq_false (by omega)
      obtain rfl : R = true := by
        rw [HR0.out]
        have h1 := HR.out.2
        rw [List.take_of_length_le (Nat.le_of_eq Hn.out.symm), List.take_of_length_le (Nat.le_of_eq Hn'.out.symm)] at h1
        rw [h1]
        exact rpB_iff.2 rfl
      go_wp2_with fail
      go_ret
      exact ⟨rfl, HBr.out⟩
end Go.Proofs.YtfkejnnbfneieaaGreatDoor
