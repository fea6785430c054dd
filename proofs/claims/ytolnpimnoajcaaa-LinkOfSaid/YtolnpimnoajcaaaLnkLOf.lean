/- LinkOf. -/
import Derived.Test.YtolnpimnoajcaaaLnkDivides
namespace Go.Proofs.Ytolnpimnoajcaaa
open Go.RowKit
open Evt Lnk

namespace Lnk
theorem ofA_at {l : List Rp} {x : ByteArray} {r : Nat → Nat} (hr : ∀ a b, a < l.length → b < l.length → (r a = r b ↔ Conn l.length (namesAt l) a b)) {i t : Nat} (hi : i < l.length) (hx : bts x ∈ namesAt l i) (ht : at? r l.length (r i) = some t) (h : t < (groups r l.length).length) :
    ofA l x r = (groups r l.length)[t] := by
  unfold ofA
  have only : ∀ s (hs : s < (groups r l.length).length), ((groups r l.length)[s].any (hasP l x)) = true → s = t := fun s hs ha => by
    obtain ⟨j, hj, hh⟩ := List.any_eq_true.1 ha
    obtain ⟨hjl, hja⟩ := (group_mem hs).1 hj
    have hjx : bts x ∈ namesAt l j := of_decide_eq_true hh
    have : r j = r i := (hr j i hjl hi).2 (.step hjl hi (.refl _) hjx hx)
    rw [this, ht] at hja
    exact (Option.some.inj hja).symm
  have ht2 : ((groups r l.length)[t].any (hasP l x)) = true := List.any_eq_true.2 ⟨i, (group_mem h).2 ⟨hi, ht⟩, decide_eq_true hx⟩
  have : (groups r l.length).find? (fun g => g.any (hasP l x)) = some (groups r l.length)[t] := by
    rw [List.find?_eq_some_iff_getElem]
    refine ⟨ht2, t, h, rfl, fun j hj => ?_⟩
    cases hq : (groups r l.length)[j].any (hasP l x) with
    | false => rfl
    | true => have := only j (by omega) hq; omega
  rw [this]; rfl
theorem ofA_none {l : List Rp} {x : ByteArray} {r : Nat → Nat} (h : ∀ i, i < l.length → bts x ∉ namesAt l i) : ofA l x r = [] := by
  unfold ofA
  have : (groups r l.length).find? (fun g => g.any (hasP l x)) = none := by
    rw [List.find?_eq_none]
    intro g hg ha
    obtain ⟨j, hj, hh⟩ := List.any_eq_true.1 ha
    exact h j (group_lt hg j hj) (of_decide_eq_true hh)
  rw [this]; rfl
theorem bts_mk (s : List UInt8) : bts ⟨s.toArray⟩ = s := by unfold bts; simp
/-- Two calls' roots give the same list. -/
theorem ofA_congr {l : List Rp} {x : ByteArray} {r r' : Nat → Nat} (hr : ∀ a b, a < l.length → b < l.length → (r a = r b ↔ Conn l.length (namesAt l) a b)) (hr' : ∀ a b, a < l.length → b < l.length → (r' a = r' b ↔ Conn l.length (namesAt l) a b)) : ofA l x r' = ofA l x r := by
  unfold ofA
  rw [groups_congr (r := r') (r' := r) (fun a b ha hb => (hr' a b ha hb).trans (hr a b ha hb).symm)]
end Lnk
set_option maxRecDepth 100000 in
set_option maxHeartbeats 16000000 in
theorem lof_any (ao : Option Addr) (l : List Rp) (cap : Nat) (hlc : l.length ≤ cap) (hcp : cap ≤ 9223372036854775807) (x : ByteArray) (W : World) (hi : IsL 2 ElRp W ao l) :
    Calls Try.prog 6 #[.slice ao l.length cap, .string x] W fun e w' => e = .returned (.bool true) ∧ Below W.heap.size W w' := by
  have HHd := Lib.hid (head_any W)
  have HFw := Lib.hid (fun w h => few14_any ao l cap (by omega) w h)
  have Hnm := Lib.hid (fun (r : Rp) (oo : Option Addr) (oc : Nat) (h1 : r.opts.length ≤ oc) (h2 : oc ≤ 9223372036854775807) (w : World) (h3 : IsL 14 ElEv w oo r.opts) => repNames_any r oo oc h1 h2 w h3)
  have HI := Lib.hid hi
  clear hi
  obtain ⟨n, Hn⟩ : ∃ n, Hid (n = l.length) := ⟨_, Lib.hid rfl⟩
  rw [← Hn.out] at HFw hlc ⊢
  obtain ⟨y1, e1⟩ : ∃ b, decide ((100 : Int) < x.size) = b := ⟨_, rfl⟩
  go_enter Try.func6, Try.ntmps6
  go_wp2_with fail
  refine HHd.out.mono ?_
  rintro e w1 ⟨rfl, hb⟩
  have HB1 := Lib.hid hb
  have HI1 := Lib.hid (HI.out.below stRp hb)
  clear hb
  go_wp2_with fail
  refine (HFw.out _ HI1.out).mono ?_
  rintro e w2 ⟨b, rfl, hq, hb⟩
  have HB2 := Lib.hid (below_step HB1.out hb)
  have HI2 := Lib.hid (HI1.out.below stRp hb)
  clear hb
  cases b with
  | false =>
    go_wp2_with fail
    go_ret
    exact ⟨rfl, HB2.out⟩
  | true =>
  have hn40 : n ≤ 40 := hq rfl
  clear hq
  cases y1 with
  | true =>
    go_wp2_with fail
    go_ret
    exact ⟨rfl, HB2.out⟩
  | false =>
  have HCm := Lib.hid (comp_any coll_any ao l cap (by rw [← Hn.out]; omega) w2 HI2.out)
  have HOl := Lib.hid (fun y w h => linkOf_any l ao cap y (by rw [← Hn.out]; omega) w h)
  rw [← Hn.out] at HCm HOl
  go_wp2_with fail
  refine HCm.out.mono ?_
  rintro e w3 ⟨sv, r, rfl, hr, hs, hb⟩
  have HRr := Lib.hid hr
  rw [← Hn.out] at hs
  have HB3 := Lib.hid (below_step HB2.out hb)
  have HI3 := Lib.hid (HI2.out.below stRp hb)
  have HNN := Lib.hid (IsNN.sets hs)
  have HOf := Lib.hid (of_any n (by omega) r _ _ sv hs)
  clear hs hb hr
  go_wp2_with fail
  refine HOf.out.mono ?_
  rintro e w4 ⟨g, rfl, -, hp, hb⟩
  obtain ⟨A, HA⟩ : ∃ x, Hid (x = num r n) := ⟨_, Lib.hid rfl⟩
  rw [← HA.out] at hp
  have HP4 := Lib.hid hp
  have HB4 := Lib.hid (below_step HB3.out hb)
  have HI4 := Lib.hid (HI3.out.below stRp hb)
  have HN4 := Lib.hid (HNN.out.below hb)
  clear hp hb
  go_wp2_with fail
  refine (HOl.out x w4 HI4.out).mono ?_
  rintro e w5 ⟨gv, r5, rfl, hr5, hgt, hb⟩
  rw [ofA_congr HRr.out hr5] at hgt
  have HG5 := Lib.hid hgt
  have HB5 := Lib.hid (below_step HB4.out hb)
  have HI5 := Lib.hid (HI4.out.below stRp hb)
  have HN5 := Lib.hid (HN4.out.below hb)
  have HP5 := Lib.hid (HP4.out.below hb)
  clear hr5 hgt hb
  obtain ⟨gt, Hgt⟩ : ∃ y, Hid (y = ofA l x r) := ⟨_, Lib.hid rfl⟩
  rw [← Hgt.out] at HG5
  obtain ⟨L, HL⟩ : ∃ x, Hid (x = gt.length) := ⟨_, Lib.hid rfl⟩
  obtain ⟨go, gc, rfl, hgv⟩ := HG5.out
  rw [← HL.out] at HG5 ⊢
  have HGv := Lib.hid hgv
  clear hgv
  go_wp2_with fail
  go_loopw [10] (fun i wr => ∃ q : Nat, q ≤ n ∧ i = .int .i64 q ∧ Hid (Below w5.heap.size w5 wr ∧ ∀ j, j < q → bts x ∉ namesAt l j)) (fun i _ => n - (intOf i).toNat)
  case atStart => exact ⟨0, Nat.zero_le _, by go_num, Lib.hid ⟨Below.refl _ _, fun j h => by omega⟩⟩
  case round =>
    obtain ⟨q, hq, rfl, HQ⟩ := hrel
    by_cases hqn : q < n
    · have hd2 : decide ((q : Int) < n) = true := decide_eq_true (by omega)
      have hb0 : (0 : Int) ≤ q := by omega
      have hb1 : (q : Int) < n := by omega
      have hql : q < l.length := by rw [← Hn.out]; exact hqn
      have HBr := Lib.hid HQ.out.1
      have HIr := Lib.hid (HI5.out.below stRp HBr.out)
      obtain ⟨bk, off, cs, rfl, hbk, hrg, oo, oc, rfl, hel, hoc1, hoc2⟩ := HIr.out.at hql
      obtain ⟨y, Hy⟩ : ∃ m, Hid (m = l[q]) := ⟨_, Lib.hid rfl⟩
      rw [← Hy.out] at hrg hel hoc1
      have HNq : Hid (namesAt l q = namesR y) := Lib.hid (by rw [namesAt_get hql, Hy.out])
      have c0 := hrg 0 _ rfl
      have c1 := hrg 1 _ rfl
      rw [Nat.add_zero] at c0
      have HN2 := Lib.hid (Hnm.out y oo oc hoc1 hoc2 wr hel)
      obtain ⟨on, Hon⟩ : ∃ m, Hid (m = y.opts.length) := ⟨_, Lib.hid rfl⟩
      obtain ⟨yd, Hyd⟩ : ∃ m, Hid (m = y.doubt) := ⟨_, Lib.hid rfl⟩
      rw [← Hon.out] at c0 HN2
      rw [← Hyd.out] at c1 HN2
      clear hrg hel hoc1
      go_wp2_with fail
      refine HN2.out.mono ?_
      rintro e w6 ⟨v6, rfl, ho6, hb6⟩
      have HIn := Lib.hid (in_any (namesR y) (by have := namesR_len y; omega) x w6 v6 (IsS.owns ho6))
      have HB6 := Lib.hid (below_step HBr.out hb6)
      obtain ⟨R, HR⟩ : ∃ b, Hid (b = decide (bts x ∈ namesR y)) := ⟨_, Lib.hid rfl⟩
      rw [← HR.out] at HIn
      clear ho6 hb6 c0 c1
      go_wp2_with fail
      refine HIn.out.mono ?_
      rintro e w7 ⟨rfl, hb7⟩
      have HB7 := Lib.hid (below_step HB6.out hb7)
      clear hb7
      cases R with
      | false =>
        have HNx : Hid (∀ j, j < q + 1 → bts x ∉ namesAt l j) := Lib.hid (fun j hj => by
          by_cases h : j < q
          · exact HQ.out.2 j h
          · obtain rfl : j = q := by omega
            rw [HNq.out]; exact of_decide_eq_false HR.out.symm)
        go_wp2_with fail
        go_round
        case rel => exact ⟨q + 1, by omega, by go_num, Lib.hid ⟨HB7.out, HNx.out⟩⟩
        case measure => simp [intOf]; omega
      | true =>
        have Hxq : Hid (bts x ∈ namesAt l q) := Lib.hid (by rw [HNq.out]; exact of_decide_eq_true HR.out.symm)
        obtain ⟨t, hat, htl, hnum⟩ := num_ex (r := r) hqn
        have Hat := Lib.hid hat
        have Hnu : Hid (A q = t + 1) := Lib.hid (by rw [HA.out]; exact hnum)
        have htN : t < n := by have := htl; rw [groups_len] at this; exact Nat.lt_of_lt_of_le this (reps_len r n)
        clear hat hnum
        obtain ⟨gs, Hgs⟩ : ∃ g, Hid (g = groups r n) := ⟨_, Lib.hid rfl⟩
        rw [← Hgs.out] at HN5 htl
        obtain ⟨N, HNn⟩ : ∃ g, Hid (g = gs.length) := ⟨_, Lib.hid rfl⟩
        have HGt : Hid (gt = gs[t]) := Lib.hid (by
          rw [Hgt.out, ofA_at HRr.out hql Hxq.out (t := t) (by rw [← Hn.out]; exact Hat.out) (by rw [← Hn.out, ← Hgs.out]; exact htl)]
          simp only [Hgs.out, Hn.out])
        have HGm : Hid (∀ k (hk : k < gt.length), gt[k] < n ∧ at? r n (r gt[k]) = some t) := Lib.hid (fun k hk => by
          have h1 : gt[k] ∈ gs[t] := by rw [← HGt.out]; exact List.getElem_mem hk
          have h2 : t < (groups r n).length := by rw [← Hgs.out]; exact htl
          have h3 : gt[k] ∈ (groups r n)[t] := by simpa only [Hgs.out] using h1
          exact (group_mem h2).1 h3)
        have hLn : L ≤ n := by
          rw [HL.out, HGt.out]
          have h2 : gs[t] ∈ groups r n := by rw [← Hgs.out]; exact List.getElem_mem htl
          exact group_len h2
        obtain ⟨so, sc, rfl, hN⟩ := HN5.out
        obtain ⟨bs, u, rfl, hbs, cs2, hu⟩ := hN t htl
        rw [← HNn.out]
        have cs2 := (cellB HB7.out hbs).trans cs2
        have hu := hu.below HB7.out
        have ca := (HP5.out.below HB7.out).cell hqn
        rw [Hnu.out] at ca
        have htz : (0 : Int) ≤ t := by omega
        have htz1 : (t : Int) < N := by rw [HNn.out]; omega
        have htc : ((t + 1 : Nat) : Int) - 1 = (t : Int) := by omega
        have ht1 : (((t + 1 : Nat) : Int)) = (t : Int) + 1 := by omega
        rw [ht1] at ca
        have HIt := Lib.hid (ints_any gt gs[t] (by rw [← HL.out]; omega) (by rw [← HGt.out, ← HL.out]; omega) w7 (.slice go L gc) u (by have := HG5.out.below HB7.out; exact this) hu)
        rw [decide_eq_true HGt.out] at HIt
        clear hN hu htc
        go_wp2_with fail
        refine HIt.out.mono ?_
        rintro e w8 ⟨rfl, hb8⟩
        have HB8 := Lib.hid (below_step HB7.out hb8)
        clear hb8 cs2 ca
        obtain ⟨wo, Hwo⟩ : ∃ x, Hid (x = wr) := ⟨_, Lib.hid rfl⟩
        clear HIr HN2 HIn
        go_wp2_with fail
        go_loopw [11] (fun i ws => ∃ k : Nat, k ≤ L ∧ i = .int .i64 k ∧ Hid (Below w5.heap.size w5 ws)) (fun i _ => L - (intOf i).toNat)
        case atStart => exact ⟨0, Nat.zero_le _, by go_num, HB8⟩
        case round =>
          obtain ⟨k, hk, rfl, HK⟩ := hrel
          by_cases hkL : k < L
          · have hd3 : decide ((k : Int) < L) = true := decide_eq_true (by omega)
            have hk0 : (0 : Int) ≤ k := by omega
            have hk1 : (k : Int) < L := by omega
            have hkg : k < gt.length := by rw [← HL.out]; exact hkL
            obtain ⟨bg, rfl, hbg, cg⟩ := HGv.out k hkg
            have cg := (cellB HK.out hbg).trans cg
            obtain ⟨z, Hz⟩ : ∃ z, Hid (z = gt[k]) := ⟨_, Lib.hid rfl⟩
            obtain ⟨hzn, hza⟩ := HGm.out k hkg
            rw [← Hz.out] at cg hzn hza
            have Hza := Lib.hid hza
            have hz0 : (0 : Int) ≤ z := by omega
            have hz1 : (z : Int) < n := by omega
            have hzl : z < l.length := by rw [← Hn.out]; exact hzn
            have HIk := Lib.hid (HI5.out.below stRp HK.out)
            obtain ⟨bk', off', cs, e', hbk', hrg, o2, c2, rfl, hel, hc1, hc2⟩ := HIk.out.at hzl
            injection e' with e'
            injection e' with e1' e2'
            subst e1' e2'
            obtain ⟨y2, Hy2⟩ : ∃ m, Hid (m = l[z]) := ⟨_, Lib.hid rfl⟩
            rw [← Hy2.out] at hrg hel hc1
            have d0 := hrg 0 _ rfl
            have d1 := hrg 1 _ rfl
            rw [Nat.add_zero] at d0
            have HNz : Hid (namesAt l z = namesR y2) := Lib.hid (by rw [namesAt_get hzl, Hy2.out])
            have HN3 := Lib.hid (Hnm.out y2 o2 c2 hc1 hc2 wr hel)
            obtain ⟨on2, Hon2⟩ : ∃ m, Hid (m = y2.opts.length) := ⟨_, Lib.hid rfl⟩
            obtain ⟨yd2, Hyd2⟩ : ∃ m, Hid (m = y2.doubt) := ⟨_, Lib.hid rfl⟩
            rw [← Hon2.out] at d0 HN3
            rw [← Hyd2.out] at d1 HN3
            obtain ⟨ss, Hss⟩ : ∃ m, Hid (m = namesR y2) := ⟨_, Lib.hid rfl⟩
            rw [← Hss.out] at HN3 HNz
            clear hrg hel hza hc1
            go_wp2_with fail
            refine HN3.out.mono ?_
            rintro e w9 ⟨v9, rfl, ho9, hb9⟩
            have HS9 := Lib.hid (IsS.owns ho9)
            have HB9 := Lib.hid (below_step HK.out hb9)
            obtain ⟨m, Hm⟩ : ∃ m, Hid (m = ss.length) := ⟨_, Lib.hid rfl⟩
            have hm8 : m ≤ 8 := by rw [Hm.out, Hss.out]; exact namesR_len y2
            obtain ⟨no, nc, rfl, hns⟩ := HS9.out
            have HNs := Lib.hid hns
            rw [← Hm.out]
            clear hns ho9 hb9 d0 d1 cg
            obtain ⟨wp, Hwp⟩ : ∃ x, Hid (x = wr) := ⟨_, Lib.hid rfl⟩
            go_wp2_with fail
            go_loopw [13] (fun i ws => ∃ j : Nat, j ≤ m ∧ i = .int .i64 j ∧ Hid (Below w9.heap.size w9 ws)) (fun i _ => m - (intOf i).toNat)
            case atStart => exact ⟨0, Nat.zero_le _, by go_num, Lib.hid (Below.refl _ _)⟩
            case round =>
              obtain ⟨j, hj, rfl, HJ⟩ := hrel
              have HBj := Lib.hid (below_step HB9.out HJ.out)
              by_cases hjm : j < m
              · have hd4 : decide ((j : Int) < m) = true := decide_eq_true (by omega)
                have hj0 : (0 : Int) ≤ j := by omega
                have hj1 : (j : Int) < m := by omega
                have hjs : j < ss.length := by rw [← Hm.out]; exact hjm
                obtain ⟨bn, rfl, hbn, cn⟩ := HNs.out j hjs
                have cn := (cellB HJ.out hbn).trans cn
                obtain ⟨s, Hs⟩ : ∃ s, Hid (s = ss[j]) := ⟨_, Lib.hid rfl⟩
                rw [← Hs.out] at cn
                have Hsz : Hid (bts ⟨s.toArray⟩ ∈ namesAt l z) := Lib.hid (by rw [bts_mk, HNz.out, Hs.out]; exact List.getElem_mem hjs)
                have HOj := Lib.hid (HOl.out ⟨s.toArray⟩ wr (HI5.out.below stRp HBj.out))
                go_wp2_with fail
                refine HOj.out.mono ?_
                rintro e wa ⟨ov, ra, rfl, hra, hn, hb⟩
                rw [ofA_congr HRr.out hra, ofA_at HRr.out hzl Hsz.out (t := t) (by rw [← Hn.out]; exact Hza.out) (by rw [← Hn.out, ← Hgs.out]; exact htl)] at hn
                have HOe : Hid ((groups r l.length)[t]'(by rw [← Hn.out, ← Hgs.out]; exact htl) = gt) := Lib.hid (by rw [HGt.out]; simp only [Hgs.out, Hn.out])
                rw [HOe.out] at hn
                have HBa := Lib.hid (below_step HBj.out hb)
                have HBa9 := Lib.hid (below_step HJ.out hb)
                have HI2' := Lib.hid (ints_any gt gt (by rw [← HL.out]; omega) (by rw [← HL.out]; omega) wa ov _ hn (HG5.out.below HBa.out))
                rw [decide_eq_true rfl] at HI2'
                clear hra hn hb
                go_wp2_with fail
                refine HI2'.out.mono ?_
                rintro e wb ⟨rfl, hb⟩
                have HBb := Lib.hid (below_step HBa9.out hb)
                clear hb cn
                go_wp2_with fail
                go_round
                case rel => exact ⟨j + 1, by omega, by go_num, HBb⟩
                case measure => simp [intOf]; omega
              · obtain rfl : j = m := by omega
                have hd4 : decide ((j : Int) < j) = false := decide_eq_false (by omega)
                go_wp2_with fail
                go_round
                case rel => exact ⟨k + 1, by omega, by go_num, HBj⟩
                case measure => simp [intOf]; omega
          · obtain rfl : k = L := by omega
            have hd3 : decide ((k : Int) < k) = false := decide_eq_false (by omega)
            have HBe := Lib.hid (below_step HB5.out HK.out)
            go_wp2_with fail
            go_ret
            exact ⟨rfl, HBe.out⟩
    · obtain rfl : q = n := by omega
      have hd2 : decide ((q : Int) < q) = false := decide_eq_false (by omega)
      have hL0 : L = 0 := by
        rw [HL.out, Hgt.out, ofA_none (fun i hi => HQ.out.2 i (by rw [Hn.out]; exact hi))]
        rfl
      subst hL0
      have HBe := Lib.hid (below_step HB5.out HQ.out.1)
      go_wp2_with fail
      go_ret
      exact ⟨rfl, HBe.out⟩
end Go.Proofs.Ytolnpimnoajcaaa
