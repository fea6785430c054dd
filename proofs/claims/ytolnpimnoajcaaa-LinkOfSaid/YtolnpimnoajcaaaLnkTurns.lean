/- LinkTurns. -/
import Derived.Test.YtolnpimnoajcaaaLnkLDoubts
namespace Go.Proofs.Ytolnpimnoajcaaa
open Go.RowKit
open Evt Lnk

namespace Lnk
theorem num_eq {r : Nat → Nat} {n x y : Nat} (hx : x < n) (hy : y < n) : num r n x = num r n y ↔ r x = r y := by
  obtain ⟨s, h1, h2, h3⟩ := num_ex (r := r) hx
  obtain ⟨t, h4, h5, h6⟩ := num_ex (r := r) hy
  constructor
  · intro h
    rw [h3, h6] at h
    have : s = t := by omega
    subst this
    obtain ⟨q1, q2⟩ := at_some h1
    obtain ⟨q3, q4⟩ := at_some h4
    exact q2.symm.trans q4
  · intro h
    unfold num
    rw [h]
theorem namesAt_rev {l : List Rp} {i : Nat} (h : i < l.length) : namesAt l.reverse i = namesAt l (l.length - 1 - i) := by
  unfold namesAt
  rw [List.getElem?_reverse h]
theorem conn_rev {l : List Rp} {a b : Nat} (h : Conn l.length (namesAt l.reverse) a b) : a < l.length → Conn l.length (namesAt l) (l.length - 1 - a) (l.length - 1 - b) := by
  intro ha
  induction h with
  | refl => exact .refl _
  | @step j k x hj hk _ h1 h2 ih =>
    rw [namesAt_rev hj] at h1
    rw [namesAt_rev hk] at h2
    exact .step (by omega) (by omega) ih h1 h2
theorem conn_turn {l : List Rp} {a b : Nat} (ha : a < l.length) (hb : b < l.length) : Conn l.length (namesAt l.reverse) (l.length - 1 - a) (l.length - 1 - b) ↔ Conn l.length (namesAt l) a b := by
  constructor
  · intro h
    have := conn_rev h (by omega)
    rwa [show l.length - 1 - (l.length - 1 - a) = a by omega, show l.length - 1 - (l.length - 1 - b) = b by omega] at this
  · intro h
    have := conn_rev (l := l.reverse) (a := a) (b := b) (by rw [List.reverse_reverse, List.length_reverse]; exact h) (by rw [List.length_reverse]; exact ha)
    rwa [List.length_reverse] at this
theorem doubts_rev (l : List Rp) : doubts l.reverse = doubts l := by
  unfold doubts
  rw [List.countP_reverse]
end Lnk
set_option maxRecDepth 100000 in
set_option maxHeartbeats 16000000 in
theorem turns_any (ao : Option Addr) (l : List Rp) (cap : Nat) (hlc : l.length ≤ cap) (hcp : cap ≤ 9223372036854775807) (W : World) (hi : IsL 2 ElRp W ao l) :
    Calls Try.prog 7 #[.slice ao l.length cap] W fun e w' => e = .returned (.bool true) ∧ Below W.heap.size W w' := by
  obtain ⟨i1, hi1, hy0, hy1, hy2⟩ := infoP info_rpL
  have HHd := Lib.hid (head_any W)
  have HFw := Lib.hid (fun w h => few14_any ao l cap (by omega) w h)
  have HI := Lib.hid hi
  clear hi
  obtain ⟨n, Hn⟩ : ∃ n, Hid (n = l.length) := ⟨_, Lib.hid rfl⟩
  rw [← Hn.out] at HFw hlc ⊢
  go_enter Try.func7, Try.ntmps7
  go_wp2_with fail
  refine HHd.out.mono ?_
  rintro e w1 ⟨rfl, hb⟩
  have HB1 := Lib.hid hb
  have HI1 := Lib.hid (HI.out.below stRp hb)
  clear hb
  go_wp2_with fail
  refine (HFw.out _ HI1.out).mono ?_
  rintro e w2 ⟨b, rfl, hq, hb⟩
  have HB2 := Lib.hid (below_step HB1.out hb)
  have HI2 := Lib.hid (HI1.out.below stRp hb)
  clear hb
  cases b with
  | false =>
    go_wp2_with fail
    go_ret
    exact ⟨rfl, HB2.out⟩
  | true =>
  have hn40 : n ≤ 40 := hq rfl
  clear hq
  go_wp2_with fail
  go_loopw [4, 6] (fun sv i wr => ∃ (k : Nat) (lv : Value), k ≤ n ∧ sv = lv ∧ i = .int .i64 ((n : Int) - 1 - k) ∧ Hid (Below w2.heap.size w2 wr ∧ OwnRp w2 wr lv (l.reverse.take k))) (fun _ i _ => (intOf i + 1).toNat)
  case atStart => exact ⟨0, _, Nat.zero_le _, rfl, by simp, Lib.hid ⟨Below.refl _ _, [], rfl, by simp, fun k h => by simp at h, World.ownsRow_nil _ _ _ _⟩⟩
  case round =>
    obtain ⟨k, lv, hk, hlv, rfl, HR⟩ := hrel
    replace hlv := hlv.symm
    subst hlv
    by_cases hkn : k < n
    · obtain ⟨q, Hq⟩ : ∃ q : Nat, Hid (n = q + k + 1) := ⟨n - 1 - k, Lib.hid (by omega)⟩
      have hqi : (n : Int) - 1 - k = (q : Int) := by have := Hq.out; omega
      have hqn : q < n := by have := Hq.out; omega
      rw [hqi]
      clear hqi
      have hd : decide ((0 : Int) ≤ q) = true := decide_eq_true (by omega)
      have hb0 : (0 : Int) ≤ q := by omega
      have hb1 : (q : Int) < n := by omega
      have hql : q < l.length := by rw [← Hn.out]; exact hqn
      obtain ⟨bk, off, cs, rfl, hbk, hrg, oo, oc, rfl, hel⟩ := HI2.out.at hql
      obtain ⟨y, Hy⟩ : ∃ m, Hid (m = l[q]) := ⟨_, Lib.hid rfl⟩
      rw [← Hy.out] at hrg hel
      have HEl : Hid (ElRp w2 [.slice oo y.opts.length oc, .bool y.doubt] y) := Lib.hid ⟨oo, oc, rfl, hel⟩
      have hrg := rangeB hrg hbk HR.out.1
      have c0 := hrg 0 _ rfl
      have c1 := hrg 1 _ rfl
      rw [Nat.add_zero] at c0
      obtain ⟨on, Hon⟩ : ∃ m, Hid (m = y.opts.length) := ⟨_, Lib.hid rfl⟩
      obtain ⟨yd, Hyd⟩ : ∃ m, Hid (m = y.doubt) := ⟨_, Lib.hid rfl⟩
      rw [← Hon.out] at c0 HEl
      rw [← Hyd.out] at c1 HEl
      obtain ⟨rs, Hrs⟩ : ∃ x, Hid (x = l.reverse.take k) := ⟨_, Lib.hid rfl⟩
      have HNx : Hid (l.reverse.take (k + 1) = rs ++ [y]) := Lib.hid (by
        have hkr : k < l.reverse.length := by rw [List.length_reverse, ← Hn.out]; exact hkn
        rw [← List.take_append_getElem hkr, ← Hrs.out, Hy.out, List.getElem_reverse]
        have := Hq.out
        congr 3
        rw [← Hn.out]; omega)
      have hrl : rs.length ≤ k := by rw [Hrs.out, List.length_take]; omega
      obtain ⟨css, q1, q2, q3, q4⟩ := HR.out.2.ex
      rw [← Hrs.out] at q1 q3 q4
      obtain ⟨L, HL⟩ : ∃ x, Hid (x = rs.length) := ⟨_, Lib.hid rfl⟩
      rw [← HL.out] at q4 hrl
      have HQ : Hid (css.length = rs.length ∧ (∀ cs ∈ css, cs.length = 2) ∧ (∀ k (h : k < rs.length) (h' : k < css.length), ElRp w2 css[k] rs[k])) := Lib.hid ⟨q1, q2, by intro k h h'; exact q3 k h h'⟩
      have HBA : Hid (Below wr.heap.size wr (wr.alloc (.cells #[.slice oo on oc, .bool yd] 40))) := Lib.hid ((Below.refl _ _).alloc (Nat.le_refl _) _)
      have HBW := Lib.hid (below_step HR.out.1 HBA.out)
      have HOx : Hid ((wr.alloc (.cells #[.slice oo on oc, .bool yd] 40)).ownsRow w2.heap.size 40 2 lv L css.flatten) := Lib.hid (owns_belowM q4 HBA.out)
      have HNs := Lib.hid (news_two wr 40 (.slice oo on oc) (.bool yd))
      have HOn : Hid (∀ u ∈ [Value.slice oo on oc, Value.bool yd], u.oneCell' = true) := Lib.hid (by simp [Value.oneCell'])
      have hsz := HBW.out.size
      clear hrg hel q1 q2 q3 q4
      go_wp2_with (at_builtin; refine wpList_append_own _ rfl _ _ 22 rfl w2.heap.size 40 i1 _ 2 32 Try.underlying22 hi1 hy0 hy1 hy2 rfl (by decide) lv L css.flatten rfl HOx.out ⟨wr.heap.size, 0, none⟩ 1 1 [.slice oo on oc, .bool yd] rfl (by simp) HNs.out HOn.out (by unfold maxLen; omega) (by omega) hsz ?_; intro v' w4 hown hgrow _; refine Hid.out ?_)
      refine Lib.hid ?_
      have HB4 : Hid (Below w2.heap.size w2 w4) := Lib.hid (HBW.out.grown hgrow hsz (fun y e => (HOx.out.lt y e).1))
      have HO4 : Hid (OwnRp w2 w4 v' (l.reverse.take (k + 1))) := Lib.hid (by
        rw [HNx.out]
        refine ⟨css ++ [[.slice oo on oc, .bool yd]], by rw [List.length_append, List.length_append, HQ.out.1]; rfl, fun cs hcs => ?_, fun j hj hj' => ?_, ?_⟩
        · rw [List.mem_append, List.mem_singleton] at hcs
          rcases hcs with hcs | hcs
          · exact HQ.out.2.1 cs hcs
          · rw [hcs]; rfl
        · by_cases hjl : j < rs.length
          · rw [List.getElem_append_left hjl, List.getElem_append_left (by rw [HQ.out.1]; exact hjl)]
            exact HQ.out.2.2 j hjl _
          · have : j = rs.length := by rw [List.length_append, List.length_singleton] at hj; omega
            subst this
            rw [List.getElem_append_right (Nat.le_refl _), List.getElem_append_right (by rw [HQ.out.1]; exact Nat.le_refl _)]
            simp only [HQ.out.1, Nat.sub_self, List.getElem_cons_zero]
            exact HEl.out
        · rw [List.length_append, ← HL.out, List.flatten_append]
          simpa using hown)
      clear hown hgrow hsz
      have hq2 : (n : Int) - 1 - ((k + 1 : Nat) : Int) = (q : Int) - 1 := by have := Hq.out; omega
      go_wp2_with fail
      go_round
      case rel => exact ⟨k + 1, _, by omega, rfl, by rw [hq2], Lib.hid ⟨HB4.out, HO4.out⟩⟩
      case measure => simp [intOf]
    · obtain rfl : k = n := by omega
      have hqi : (k : Int) - 1 - k = -1 := by omega
      rw [hqi]
      clear hqi
      have hd : decide ((0 : Int) ≤ -1) = false := by decide
      obtain ⟨rv, Hrv⟩ : ∃ x, Hid (x = l.reverse) := ⟨_, Lib.hid rfl⟩
      have HOw : Hid (OwnRp w2 wr lv rv) := Lib.hid (by have := HR.out.2; rwa [List.take_of_length_le (by rw [List.length_reverse, ← Hn.out]; exact Nat.le_refl _), ← Hrv.out] at this)
      obtain ⟨bo, bn, bc, rfl⟩ : ∃ a b c, lv = .slice a b c := by
        obtain ⟨css, _, _, _, q4⟩ := HOw.out.ex
        obtain ⟨a, c, e⟩ := owns_shapeM q4
        exact ⟨a, _, c, e⟩
      obtain ⟨hbn, hbl⟩ := HOw.out.isL HR.out.1
      have hrl : rv.length = k := by rw [Hrv.out, List.length_reverse, ← Hn.out]
      rw [hrl] at hbn
      subst hbn
      have HBl := Lib.hid hbl
      clear hbl
      have HB5 := Lib.hid (below_step HB2.out HR.out.1)
      have HI5 := Lib.hid (HI2.out.below stRp HR.out.1)
      have HCm := Lib.hid (comp_any coll_any ao l cap (by rw [← Hn.out]; omega) wr HI5.out)
      rw [← Hn.out] at HCm
      go_wp2_with fail
      refine HCm.out.mono ?_
      rintro e w6 ⟨sv, r, rfl, hr, hs, hb⟩
      rw [← Hn.out] at hs hr
      have HRr := Lib.hid hr
      have HB6 := Lib.hid (below_step HB5.out hb)
      have HI6 := Lib.hid (HI5.out.below stRp hb)
      have HL6 := Lib.hid (HBl.out.below stRp hb)
      have HOf := Lib.hid (of_any bn (by omega) r _ _ sv hs)
      clear hs hb hr
      go_wp2_with fail
      refine HOf.out.mono ?_
      rintro e w7 ⟨ga, rfl, -, hp, hb⟩
      have HPa := Lib.hid hp
      have HB7 := Lib.hid (below_step HB6.out hb)
      have HI7 := Lib.hid (HI6.out.below stRp hb)
      have HL7 := Lib.hid (HL6.out.below stRp hb)
      clear hp hb
      have HCn := Lib.hid (comp_any coll_any bo rv bc (by omega) w7 HL7.out)
      rw [hrl] at HCn
      go_wp2_with fail
      refine HCn.out.mono ?_
      rintro e w8 ⟨tv, s, rfl, hr, hs, hb⟩
      rw [hrl] at hs hr
      have HRs := Lib.hid hr
      have HB8 := Lib.hid (below_step HB7.out hb)
      have HI8 := Lib.hid (HI7.out.below stRp hb)
      have HL8 := Lib.hid (HL7.out.below stRp hb)
      have HPa8 := Lib.hid (HPa.out.below hb)
      have HOg := Lib.hid (of_any bn (by omega) s _ _ tv hs)
      clear hs hb hr
      go_wp2_with fail
      refine HOg.out.mono ?_
      rintro e w9 ⟨gb, rfl, -, hp, hb⟩
      have HPb := Lib.hid hp
      have HB9 := Lib.hid (below_step HB8.out hb)
      have HI9 := Lib.hid (HI8.out.below stRp hb)
      have HL9 := Lib.hid (HL8.out.below stRp hb)
      have HPa9 := Lib.hid (HPa8.out.below hb)
      clear hp hb
      have HDa := Lib.hid (doubts_any ao l cap (by rw [← Hn.out]; omega) w9 HI9.out)
      rw [← Hn.out] at HDa
      have HDb := Lib.hid (fun w h => doubts_any bo rv bc (by omega) w h)
      have HDe : Hid (doubts rv = doubts l) := Lib.hid (by rw [Hrv.out]; exact doubts_rev l)
      rw [hrl, HDe.out] at HDb
      obtain ⟨D, HD⟩ : ∃ x, Hid (x = doubts l) := ⟨_, Lib.hid rfl⟩
      rw [← HD.out] at HDa HDb
      have hDD : ((D : Int) != (D : Int)) = false := by simp
      go_wp2_with fail
      refine HDa.out.mono ?_
      rintro e wa ⟨rfl, hb⟩
      have HBa := Lib.hid (below_step HB9.out hb)
      have HLa := Lib.hid (HL9.out.below stRp hb)
      have HPaa := Lib.hid (HPa9.out.below hb)
      have HPba := Lib.hid (HPb.out.below hb)
      clear hb
      go_wp2_with fail
      refine (HDb.out wa HLa.out).mono ?_
      rintro e wb ⟨rfl, hb⟩
      have HBb := Lib.hid (below_step HBa.out hb)
      have HPab := Lib.hid (HPaa.out.below hb)
      have HPbb := Lib.hid (HPba.out.below hb)
      clear hb
      go_wp2_with fail
      have HNm : Hid (∀ i j, i < bn → j < bn → (num r bn i = num r bn j ↔ num s bn (bn - 1 - i) = num s bn (bn - 1 - j))) := Lib.hid (fun i j hi hj => by
        rw [num_eq hi hj, num_eq (by omega) (by omega), HRr.out i j hi hj, HRs.out _ _ (by omega) (by omega), Hrv.out]
        have := conn_turn (l := l) (a := i) (b := j) (by rw [← Hn.out]; exact hi) (by rw [← Hn.out]; exact hj)
        rw [← Hn.out] at this
        exact this.symm)
      obtain ⟨A, HA⟩ : ∃ x, Hid (x = num r bn) := ⟨_, Lib.hid rfl⟩
      obtain ⟨B, HBn⟩ : ∃ x, Hid (x = num s bn) := ⟨_, Lib.hid rfl⟩
      rw [← HA.out] at HPab HNm
      rw [← HBn.out] at HPbb HNm
      obtain ⟨wo, Hwo⟩ : ∃ x, Hid (x = wb) := ⟨_, Lib.hid rfl⟩
      go_loopw [11] (fun i ws => ∃ q : Nat, q ≤ bn ∧ i = .int .i64 q ∧ Hid (Below wb.heap.size wb ws)) (fun i _ => bn - (intOf i).toNat)
      case atStart => exact ⟨0, Nat.zero_le _, by go_num, Lib.hid (Below.refl _ _)⟩
      case round =>
        obtain ⟨q, hq, rfl, HQ⟩ := hrel
        by_cases hqn : q < bn
        · have hd2 : decide ((q : Int) < bn) = true := decide_eq_true (by omega)
          have hb0 : (0 : Int) ≤ q := by omega
          have hb1 : (q : Int) < bn := by omega
          obtain ⟨wp, Hwp⟩ : ∃ x, Hid (x = wr) := ⟨_, Lib.hid rfl⟩
          rw [← Hwp.out] at HQ
          obtain ⟨q', Hq'⟩ : ∃ q' : Nat, Hid (bn = q' + q + 1) := ⟨bn - 1 - q, Lib.hid (by omega)⟩
          have hqq : (bn : Int) - 1 - q = (q' : Int) := by have := Hq'.out; omega
          have hqb : (q' : Int) < bn := by have := Hq'.out; omega
          have hqb0 : (0 : Int) ≤ q' := by omega
          have hqbn : q' < bn := by omega
          go_wp2_with fail
          go_loopw [12] (fun i ws => ∃ p : Nat, p ≤ q ∧ i = .int .i64 p ∧ Hid (Below wp.heap.size wp ws)) (fun i _ => q - (intOf i).toNat)
          case atStart => exact ⟨0, Nat.zero_le _, by go_num, Lib.hid (by rw [Hwp.out]; exact Below.refl _ _)⟩
          case round =>
            obtain ⟨p, hp, rfl, HX⟩ := hrel
            have HBX := Lib.hid (below_step HQ.out HX.out)
            by_cases hpq : p < q
            · have hd3 : decide ((p : Int) < q) = true := decide_eq_true (by omega)
              have hp0 : (0 : Int) ≤ p := by omega
              have hp1 : (p : Int) < bn := by omega
              have hpn : p < bn := by omega
              obtain ⟨p', Hp'⟩ : ∃ p' : Nat, Hid (bn = p' + p + 1) := ⟨bn - 1 - p, Lib.hid (by omega)⟩
              have hpp : (bn : Int) - 1 - p = (p' : Int) := by have := Hp'.out; omega
              have hpb : (p' : Int) < bn := by have := Hp'.out; omega
              have hpb0 : (0 : Int) ≤ p' := by omega
              have hpbn : p' < bn := by omega
              obtain ⟨a1, Ha1⟩ : ∃ x, Hid (x = A q) := ⟨_, Lib.hid rfl⟩
              obtain ⟨a2, Ha2⟩ : ∃ x, Hid (x = A p) := ⟨_, Lib.hid rfl⟩
              obtain ⟨b1, Hb1⟩ : ∃ x, Hid (x = B q') := ⟨_, Lib.hid rfl⟩
              obtain ⟨b2, Hb2⟩ : ∃ x, Hid (x = B p') := ⟨_, Lib.hid rfl⟩
              have HE : Hid (a1 = a2 ↔ b1 = b2) := Lib.hid (by
                have := HNm.out q p hqn hpn
                have h1 := Hq'.out
                have h2 := Hp'.out
                rw [Ha1.out, Ha2.out, Hb1.out, Hb2.out, this, show bn - 1 - q = q' by omega, show bn - 1 - p = p' by omega])
              have ga1 : ∀ Z : Grown wr, Z.w.cell? ⟨ga, q, none⟩ = some (.int .i64 (a1 : Nat)) := fun Z => by rw [Ha1.out]; exact (HPab.out.below (below_step HBX.out Z.below)).cell hqn
              have ga2 : ∀ Z : Grown wr, Z.w.cell? ⟨ga, p, none⟩ = some (.int .i64 (a2 : Nat)) := fun Z => by rw [Ha2.out]; exact (HPab.out.below (below_step HBX.out Z.below)).cell hpn
              have gb1 : ∀ Z : Grown wr, Z.w.cell? ⟨gb, q', none⟩ = some (.int .i64 (b1 : Nat)) := fun Z => by rw [Hb1.out]; exact (HPbb.out.below (below_step HBX.out Z.below)).cell hqbn
              have gb2 : ∀ Z : Grown wr, Z.w.cell? ⟨gb, p', none⟩ = some (.int .i64 (b2 : Nat)) := fun Z => by rw [Hb2.out]; exact (HPbb.out.below (below_step HBX.out Z.below)).cell hpbn
              by_cases haa : a1 = a2
              · have hbb := HE.out.1 haa
                have e1 : ((a1 : Int) == a2) = true := by simp; omega
                have e2 : ((b1 : Int) == b2) = true := by simp; omega
                clear haa hbb
                go_wp2_with fail
                refine wp_region_grown (by kernel_rfl) (by kernel_rfl) ?_
                repeat (go_big_quiet_step (fail))
                refine wpQuiet_nil ?_
                rintro _ ⟨Z, rfl⟩
                have HBZ := Lib.hid (below_step HX.out Z.below)
                go_wp2_with fail
                go_round
                case rel => exact ⟨p + 1, by omega, by go_num, HBZ⟩
                case measure => simp [intOf]; omega
              · have hbb : ¬ b1 = b2 := fun h => haa (HE.out.2 h)
                have e1 : ((a1 : Int) == a2) = false := by simp; omega
                have e2 : ((b1 : Int) == b2) = false := by simp; omega
                go_wp2_with fail
                refine wp_region_grown (by kernel_rfl) (by kernel_rfl) ?_
                repeat (go_big_quiet_step (fail))
                refine wpQuiet_nil ?_
                rintro _ ⟨Z, rfl⟩
                have HBZ := Lib.hid (below_step HX.out Z.below)
                go_wp2_with fail
                go_round
                case rel => exact ⟨p + 1, by omega, by go_num, HBZ⟩
                case measure => simp [intOf]; omega
            · obtain rfl : p = q := by omega
              have hd3 : decide ((p : Int) < p) = false := decide_eq_false (by omega)
              go_wp2_with fail
              go_round
              case rel => exact ⟨p + 1, by omega, by go_num, HBX⟩
              case measure => simp [intOf]; omega
        · obtain rfl : q = bn := by omega
          have hd2 : decide ((q : Int) < q) = false := decide_eq_false (by omega)
          have HBe := Lib.hid (below_step HBb.out HQ.out)
          go_wp2_with fail
          go_ret
          exact ⟨rfl, HBe.out⟩
end Go.Proofs.Ytolnpimnoajcaaa
