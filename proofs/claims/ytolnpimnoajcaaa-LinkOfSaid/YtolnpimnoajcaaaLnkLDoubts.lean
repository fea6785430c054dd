/- LinkDoubts. -/
import Derived.Test.YtolnpimnoajcaaaLnkHead
import Derived.Test.YtolnpimnoajcaaaLnkOf
namespace Go.Proofs.Ytolnpimnoajcaaa
open Go.RowKit
open Evt Lnk

theorem IsL.sub1 {α : Type} {size : Nat} {El : World → List Value → α → Prop} {W : World} {bk off : Nat} {l : List α} (h : IsL size El W (some ⟨bk, off, none⟩) l) {k : Nat} (hk : k < l.length) : IsL size El W (some ⟨bk, off + k * size, none⟩) [l[k]] := by
  obtain ⟨bk', off', cs, e, h1, h2, h3⟩ := h.at hk
  injection e with e
  injection e with e1 e2
  subst e1 e2
  refine Or.inr ⟨_, _, rfl, h1, fun j hj => ?_⟩
  obtain rfl : j = 0 := by simp at hj; exact hj
  exact ⟨cs, by rw [Nat.zero_mul, Nat.add_zero]; exact h2, h3⟩
namespace Lnk
theorem dbt_len {y : Rp} (h : dbt y = true) : y.opts.length ≠ 0 ∧ (y.opts.length = 1 → y.doubt = true) := by
  unfold dbt choices at h
  have h := of_decide_eq_true h
  by_cases hv : validR y = true
  · rw [if_pos hv] at h
    have hl := (validR_len hv).1
    refine ⟨by omega, fun h1 => ?_⟩
    cases hd : y.doubt with
    | true => rfl
    | false => rw [hd, h1] at h; simp at h
  · rw [if_neg hv] at h
    simp at h
theorem doubts_one (y : Rp) : doubts [y] = if dbt y then 1 else 0 := by
  unfold doubts
  rw [List.countP_singleton]
theorem sumTake (gs : List (List Nat)) (f : List Nat → Nat) (k : Nat) (h : k < gs.length) : ((gs.take (k + 1)).map f).sum = ((gs.take k).map f).sum + f gs[k] := by
  rw [← List.take_append_getElem h, List.map_append, List.sum_append]; simp
theorem sumTake_le (gs : List (List Nat)) (f : List Nat → Nat) (k : Nat) : ((gs.take k).map f).sum ≤ (gs.map f).sum := by
  have e := congrArg (fun l => (l.map f).sum) (List.take_append_drop k gs)
  simp only [List.map_append, List.sum_append] at e
  omega
end Lnk
set_option maxRecDepth 100000 in
set_option maxHeartbeats 16000000 in
theorem ldoubts_any (ao : Option Addr) (l : List Rp) (cap : Nat) (hlc : l.length ≤ cap) (hcp : cap ≤ 9223372036854775807) (W : World) (hi : IsL 2 ElRp W ao l) :
    Calls Try.prog 9 #[.slice ao l.length cap] W fun e w' => e = .returned (.bool true) ∧ Below W.heap.size W w' := by
  have HHd := Lib.hid (head_any W)
  have HFw := Lib.hid (fun w h => few14_any ao l cap (by omega) w h)
  have HI := Lib.hid hi
  clear hi
  obtain ⟨n, Hn⟩ : ∃ n, Hid (n = l.length) := ⟨_, Lib.hid rfl⟩
  rw [← Hn.out] at HFw hlc ⊢
  go_enter Try.func9, Try.ntmps9
  go_wp2_with fail
  refine HHd.out.mono ?_
  rintro e w1 ⟨rfl, hb⟩
  have HB1 := Lib.hid hb
  have HI1 := Lib.hid (HI.out.below stRp hb)
  clear hb
  go_wp2_with fail
  refine (HFw.out _ HI1.out).mono ?_
  rintro e w2 ⟨b, rfl, hq, hb⟩
  have HB2 := Lib.hid (below_step HB1.out hb)
  have HI2 := Lib.hid (HI1.out.below stRp hb)
  clear hb
  cases b with
  | false =>
    go_wp2_with fail
    go_ret
    exact ⟨rfl, HB2.out⟩
  | true =>
  have hn40 : n ≤ 40 := hq rfl
  clear hq
  have HCm := Lib.hid (comp_any coll_any ao l cap (by rw [← Hn.out]; omega) w2 HI2.out)
  rw [← Hn.out] at HCm
  go_wp2_with fail
  refine HCm.out.mono ?_
  rintro e w3 ⟨sv, r, rfl, -, hs, hb⟩
  rw [← Hn.out] at hs
  have HS := Lib.hid hs
  have HB3 := Lib.hid (below_step HB2.out hb)
  have HI3 := Lib.hid (HI2.out.below stRp hb)
  clear hs hb
  go_wp2_with fail
  refine (of_any n (by omega) r _ _ sv HS.out).mono ?_
  rintro e w4 ⟨g, rfl, -, -, hb⟩
  have HB4 := Lib.hid (below_step HB3.out hb)
  have HI4 := Lib.hid (HI3.out.below stRp hb)
  have HN4 := Lib.hid ((IsNN.sets HS.out).below hb)
  clear hb
  obtain ⟨so, sc, rfl, hN⟩ := HN4.out
  have HN := Lib.hid hN
  clear hN
  obtain ⟨gs, Hgs⟩ : ∃ g, Hid (g = groups r n) := ⟨_, Lib.hid rfl⟩
  rw [← Hgs.out] at HN ⊢
  obtain ⟨N, HNn⟩ : ∃ g, Hid (g = gs.length) := ⟨_, Lib.hid rfl⟩
  rw [← HNn.out]
  have hNn : N ≤ n := by rw [HNn.out, Hgs.out, groups_len]; exact reps_len r _
  have HSum : Hid ((gs.map (List.countP (pD l))).sum = doubts l) := Lib.hid (by rw [Hgs.out, Hn.out]; exact doubts_sum l r)
  have HDl : Hid (doubts l ≤ n) := Lib.hid (by rw [Hn.out]; exact doubts_le l)
  go_wp2_with fail
  go_loopw [7, 8] (fun a i wr => ∃ k c : Nat, k ≤ N ∧ c ≤ n ∧ a = .int .i64 c ∧ i = .int .i64 k ∧ Hid (Below w4.heap.size w4 wr ∧ c = ((gs.take k).map (List.countP (pD l))).sum)) (fun _ i _ => N - (intOf i).toNat)
  case atStart => exact ⟨0, 0, Nat.zero_le _, Nat.zero_le _, by go_num, by go_num, Lib.hid ⟨Below.refl _ _, by simp⟩⟩
  case round =>
    obtain ⟨k, c, hk, hcn, rfl, rfl, HR⟩ := hrel
    by_cases hkn : k < N
    · have hd : decide ((k : Int) < N) = true := decide_eq_true (by omega)
      have hb0 : (0 : Int) ≤ k := by omega
      have hb1 : (k : Int) < N := by omega
      have hkg : k < gs.length := by rw [← HNn.out]; exact hkn
      obtain ⟨b, u, rfl, hb, cc, hu⟩ := HN.out k hkg
      have cc := (cellB HR.out.1 hb).trans cc
      have HMm : Hid (gs[k] ∈ groups r l.length) := Lib.hid (by rw [← Hn.out, ← Hgs.out]; exact List.getElem_mem hkg)
      have hgl : gs[k].length ≤ 1000000 := by have := group_len HMm.out; rw [← Hn.out] at this; omega
      have HPk := Lib.hid (picked_any l ao cap gs[k] u (by rw [← Hn.out]; omega) hgl (fun i hi => group_lt HMm.out i hi) wr (HI4.out.below stRp HR.out.1) (hu.below HR.out.1))
      rw [← Hn.out] at HPk
      obtain ⟨d, Hd⟩ : ∃ d, Hid (d = gs[k].countP (pD l)) := ⟨_, Lib.hid rfl⟩
      have HDp : Hid (doubts (gs[k].filterMap fun i => l[i]?) = d) := Lib.hid (by rw [Hd.out]; exact doubts_pick l gs[k] (fun i hi => group_lt HMm.out i hi))
      have HNx : Hid (c + d = ((gs.take (k + 1)).map (List.countP (pD l))).sum) := Lib.hid (by rw [sumTake gs _ k hkg, Hd.out, ← HR.out.2])
      have hcd : c + d ≤ n := by
        have := sumTake_le gs (List.countP (pD l)) (k + 1)
        rw [← HNx.out, HSum.out] at this
        exact Nat.le_trans this HDl.out
      have HLn : Hid ((gs[k].filterMap fun i => l[i]?).length ≤ 1000000) := Lib.hid (Nat.le_trans (List.length_filterMap_le _ _) hgl)
      obtain ⟨pl, Hpl⟩ : ∃ p, Hid (p = gs[k].filterMap fun i => l[i]?) := ⟨_, Lib.hid rfl⟩
      rw [← Hpl.out] at HPk HDp HLn
      clear hu
      go_wp2_with fail
      refine HPk.out.mono ?_
      rintro e w5 ⟨pv, rfl, ho, hb5⟩
      obtain ⟨css, q1, q2, q3, q4⟩ := ho.ex
      obtain ⟨po, pc, rfl⟩ := owns_shapeM q4
      clear q1 q2 q3 q4
      have HL5 := Lib.hid (ho.isL hb5).2
      have HB5 := Lib.hid (below_step HR.out.1 hb5)
      have HDb := Lib.hid (doubts_any po pl pc HLn.out w5 HL5.out)
      rw [HDp.out] at HDb
      clear ho hb5
      go_wp2_with fail
      refine HDb.out.mono ?_
      rintro e w6 ⟨rfl, hb⟩
      have HB6 := Lib.hid (below_step HB5.out hb)
      clear hb
      go_wp2_with fail
      go_round
      case rel => exact ⟨k + 1, c + d, by omega, hcd, by go_num, by go_num, Lib.hid ⟨HB6.out, HNx.out⟩⟩
      case measure => simp [intOf]; omega
    · obtain rfl : k = N := by omega
      have hd : decide ((k : Int) < k) = false := decide_eq_false (by omega)
      have HcD : Hid (c = doubts l) := Lib.hid (by rw [HR.out.2, HNn.out, List.take_length, HSum.out])
      have HBW := Lib.hid (below_step HB4.out HR.out.1)
      have HIW := Lib.hid (HI4.out.below stRp HR.out.1)
      go_wp2_with fail
      obtain ⟨wo, Hwo⟩ : ∃ x, Hid (x = wr) := ⟨_, Lib.hid rfl⟩
      rw [← Hwo.out] at HBW HIW
      go_loopw [9] (fun i ws => ∃ q : Nat, q ≤ n ∧ i = .int .i64 q ∧ Hid (Below wo.heap.size wo ws)) (fun i _ => n - (intOf i).toNat)
      case atStart => exact ⟨0, Nat.zero_le _, by go_num, Lib.hid (by rw [Hwo.out]; exact Below.refl _ _)⟩
      case round =>
        obtain ⟨q, hq, rfl, HQ⟩ := hrel
        by_cases hqn : q < n
        · have hd2 : decide ((q : Int) < n) = true := decide_eq_true (by omega)
          have hb0 : (0 : Int) ≤ q := by omega
          have hb1 : (q : Int) < n := by omega
          have hql : q < l.length := by rw [← Hn.out]; exact hqn
          have HIq := Lib.hid (HIW.out.below stRp HQ.out)
          obtain ⟨bk, off, cs, rfl, hbk, hrg, oo, oc, rfl, hel, -, -⟩ := HIq.out.at hql
          have HSb := Lib.hid (HIq.out.sub1 hql)
          obtain ⟨y, Hy⟩ : ∃ m, Hid (m = l[q]) := ⟨_, Lib.hid rfl⟩
          rw [← Hy.out] at hrg hel HSb
          have c0 := hrg 0 _ rfl
          have c1 := hrg 1 _ rfl
          rw [Nat.add_zero] at c0
          have HC0 := Lib.hid c0
          have HC1 := Lib.hid c1
          have HDb := Lib.hid (doubts_any _ [y] (cap - q) (by simp) wr HSb.out)
          rw [doubts_one, show ([y].length) = 1 from rfl] at HDb
          obtain ⟨dy, Hdy⟩ : ∃ m, Hid (m = dbt y) := ⟨_, Lib.hid rfl⟩
          have HDy : Hid (dy = true → y.opts.length ≠ 0 ∧ (y.opts.length = 1 → y.doubt = true)) := Lib.hid (fun h => dbt_len (by rw [← Hdy.out]; exact h))
          rw [← Hdy.out] at HDb
          obtain ⟨on, Hon⟩ : ∃ m, Hid (m = y.opts.length) := ⟨_, Lib.hid rfl⟩
          obtain ⟨yd, Hyd⟩ : ∃ m, Hid (m = y.doubt) := ⟨_, Lib.hid rfl⟩
          rw [← Hon.out] at HC0 HDy
          rw [← Hyd.out] at HC1 HDy
          clear c0 c1 hrg hel
          have hcq : ¬ cap = q := by omega
          have hcq1 : (q : Int) + 1 ≤ cap := by omega
          cases dy with
          | false =>
            rw [if_neg (by simp)] at HDb
            go_wp2_with fail
            refine HDb.out.mono ?_
            rintro e w6 ⟨rfl, hb⟩
            have HB6 := Lib.hid (below_step HQ.out hb)
            clear hb
            go_wp2_with fail
            go_round
            case rel => exact ⟨q + 1, by omega, by go_num, HB6⟩
            case measure => simp [intOf]; omega
          | true =>
            rw [if_pos rfl] at HDb
            obtain ⟨hon0, hon1⟩ := HDy.out rfl
            have ho0 : ((on : Int) == 0) = false := by simp; omega
            by_cases hone : on = 1
            · have hyd := hon1 hone
              subst hone
              subst hyd
              go_wp2_with fail
              refine HDb.out.mono ?_
              rintro e w6 ⟨rfl, hb⟩
              have HB6 := Lib.hid (below_step HQ.out hb)
              have c0 := (cellB hb hbk).trans HC0.out
              have c1 := (cellB hb hbk).trans HC1.out
              clear hb
              go_wp2_with fail
              go_round
              case rel => exact ⟨q + 1, by omega, by go_num, HB6⟩
              case measure => simp [intOf]; omega
            · have ho1 : ((on : Int) == 1) = false := by simp; omega
              go_wp2_with fail
              refine HDb.out.mono ?_
              rintro e w6 ⟨rfl, hb⟩
              have HB6 := Lib.hid (below_step HQ.out hb)
              have c0 := (cellB hb hbk).trans HC0.out
              have c1 := (cellB hb hbk).trans HC1.out
              clear hb
              go_wp2_with fail
              go_round
              case rel => exact ⟨q + 1, by omega, by go_num, HB6⟩
              case measure => simp [intOf]; omega
        · obtain rfl : q = n := by omega
          have hd2 : decide ((q : Int) < q) = false := decide_eq_false (by omega)
          have HIq := Lib.hid (HIW.out.below stRp HQ.out)
          have HBq := Lib.hid (below_step HBW.out HQ.out)
          have HDb := Lib.hid (doubts_any ao l cap (by rw [← Hn.out]; omega) wr HIq.out)
          rw [← Hn.out, ← HcD.out] at HDb
          have hcc : ((c : Int) == (c : Int)) = true := by simp
          have hcq : decide ((c : Int) ≤ q) = true := decide_eq_true (by omega)
          go_wp2_with fail
          refine HDb.out.mono ?_
          rintro e w6 ⟨rfl, hb⟩
          have HB6 := Lib.hid (below_step HBq.out hb)
          clear hb
          go_wp2_with fail
          go_ret
          exact ⟨rfl, HB6.out⟩
end Go.Proofs.Ytolnpimnoajcaaa
