/- EventTexts. -/
import Derived.Test.YtbnofoncapaabaaGreatDoorEvtFldR
import Derived.Test.YtbnofoncapaabaaGreatDoorEvEq
namespace Go.Proofs.YtbnofoncapaabaaGreatDoor
open Go.RowKit
open Evt

set_option maxRecDepth 100000 in
set_option maxHeartbeats 8000000 in
theorem texts_walk (a b y : Ev) (ha : Sz a) (hb : Sz b) (hy : Sz y) (s ta tb : ByteArray) (sha shb va vb py : Bool) (W : World)
    (hH : ∀ w, Below W.heap.size W w → Calls Tryz.prog 7 #[] w fun e w' => e = .returned (.bool true) ∧ Below w.heap.size w w')
    (hSa : ∀ w, Calls Tryz.prog 8 #[.agg (evC a).toArray] w fun e w' => e = .returned (.bool sha) ∧ Below w.heap.size w w')
    (hSb : ∀ w, Calls Tryz.prog 8 #[.agg (evC b).toArray] w fun e w' => e = .returned (.bool shb) ∧ Below w.heap.size w w')
    (hVa : ∀ w, Calls Tryz.prog 10 #[.agg (evC a).toArray] w fun e w' => e = .returned (.bool va) ∧ Below w.heap.size w w')
    (hTa : ∀ w, Below W.heap.size W w → Calls Tryz.prog 9 #[.agg (evC a).toArray] w fun e w' => e = .returned (.tuple #[.string ta, .int .i64 (if va then 0 else 1)]) ∧ Below w.heap.size w w')
    (hTb : ∀ w, Below W.heap.size W w → Calls Tryz.prog 9 #[.agg (evC b).toArray] w fun e w' => e = .returned (.tuple #[.string tb, .int .i64 (if vb then 0 else 1)]) ∧ Below w.heap.size w w')
    (hae : va = false → ta = ⟨#[]⟩)
    (hPa : va = true → ∀ w, Below W.heap.size W w → Calls Tryz.prog 11 #[.string ta] w fun e w' => e = .returned (.tuple #[.agg (evC a).toArray, .int .i64 0]) ∧ Below w.heap.size w w')
    (heq : va = true → vb = true → (ta.toList == tb.toList) = evEq a b)
    (hP : s.size ≤ 3000 → ∀ w, Below W.heap.size W w → Calls Tryz.prog 11 #[.string s] w fun e w' => e = .returned (.tuple #[.agg (evC y).toArray, .int .i64 (if py then 0 else 8)]) ∧ Below w.heap.size w w')
    (hPz : py = false → y = zero)
    (hTy : py = true → ∀ w, Below W.heap.size W w → Calls Tryz.prog 9 #[.agg (evC y).toArray] w fun e w' => e = .returned (.tuple #[.string s, .int .i64 0]) ∧ Below w.heap.size w w')
    (hVy : py = true → ∀ w, Calls Tryz.prog 10 #[.agg (evC y).toArray] w fun e w' => e = .returned (.bool true) ∧ Below w.heap.size w w') :
    Calls Tryz.prog 3 #[.agg (evC a).toArray, .agg (evC b).toArray, .string s] W fun e w' => e = .returned (.bool true) ∧ Below W.heap.size W w' := by
  obtain ⟨V1, HV1⟩ : ∃ w, Hid (w = W.alloc (.cells (evC a).toArray 27)) := ⟨_, Lib.hid rfl⟩
  obtain ⟨NA, HNA⟩ : ∃ N, Hid (N = W.heap.size) := ⟨_, Lib.hid rfl⟩
  obtain ⟨V, HV⟩ : ∃ w, Hid (w = V1.alloc (.cells (evC b).toArray 27)) := ⟨_, Lib.hid rfl⟩
  obtain ⟨NB, HNB⟩ : ∃ N, Hid (N = NA + 1) := ⟨_, Lib.hid rfl⟩
  have hB1 : Below W.heap.size W V1 := by rw [HV1.out]; exact (Below.refl _ _).alloc (Nat.le_refl _) _
  have hB2 : Below V1.heap.size V1 V := by rw [HV.out]; exact (Below.refl _ _).alloc (Nat.le_refl _) _
  have HWA : Hid (Whole V NA 27 (evC a).toArray) := Lib.hid (whole_belowM (by rw [HV1.out, HNA.out]; exact Whole.new _ _ _) hB2)
  have HWB : Hid (Whole V NB 27 (evC b).toArray) := Lib.hid (by rw [HV.out]; exact Whole.newAt _ _ (by rw [HNB.out, HNA.out, HV1.out]; simp))
  have HB := Lib.hid (below_step hB1 hB2)
  have HH := Lib.hid (hH V HB.out)
  have HSp := Lib.hid ev_size
  have HSa := Lib.hid ha
  have HSb := Lib.hid hb
  have HSy := Lib.hid hy
  have HSha := Lib.hid hSa
  have HShb := Lib.hid hSb
  have HVa := Lib.hid hVa
  have HTa := Lib.hid hTa
  have HTb := Lib.hid hTb
  have Hae := Lib.hid hae
  have HPa := Lib.hid hPa
  have Heq := Lib.hid heq
  have HP := Lib.hid hP
  have HPz := Lib.hid hPz
  have HTy := Lib.hid hTy
  have HVy := Lib.hid hVy
  have HOy := Lib.hid (evC_one y)
  have HOa := Lib.hid (evC_one a)
  clear hH hSa hSb hVa hTa hTb hae hPa heq hP hPz hTy hVy ha hb hy hB1 hB2
  go_enter Tryz.func3, Tryz.ntmps3
  go_wp2_with fail
  rw [← HV1.out, ← HV.out, ← HNA.out, ← HNB.out]
  refine HH.out.mono ?_
  rintro e w1 ⟨rfl, hb⟩
  have HB1 := Lib.hid (below_step HB.out hb)
  have HA1 := Lib.hid (whole_belowM HWA.out hb)
  have HK1 := Lib.hid (whole_belowM HWB.out hb)
  clear hb
  go_wp2_with (first
    | (with_reducible show wpList _ _ _ (Oper.mk _ (Op.load 27 _) _ _ _ _ :: _) _ _; refine wpList_load_mid rfl _ _ rfl NA 0 rfl (evC a) _ (Whole.range HA1.out) Tryz.underlying27 rfl (HSp.out.trans rfl) ?_))
  refine (HSha.out w1).mono ?_
  rintro e w2 ⟨rfl, hb⟩
  have HB2 := Lib.hid (below_step HB1.out hb)
  have HA2 := Lib.hid (whole_belowM HA1.out hb)
  have HK2 := Lib.hid (whole_belowM HK1.out hb)
  clear hb
  cases sha with
  | false =>
    go_wp2_with fail
    go_ret
    exact ⟨rfl, HB2.out⟩
  | true =>
  go_wp2_with (first
    | (with_reducible show wpList _ _ _ (Oper.mk _ (Op.load 27 _) _ _ _ _ :: _) _ _; refine Hid.out ?_))
  refine Lib.hid ?_
  refine wpList_load_yes (by kernel_rfl) _ _ rfl NB 0 rfl (evC b) _ (Whole.range HK2.out) Tryz.underlying27 rfl (HSp.out.trans rfl) ?_
  go_wp2_with fail
  refine (HShb.out w2).mono ?_
  rintro e w3 ⟨rfl, hb⟩
  have HB3 := Lib.hid (below_step HB2.out hb)
  have HA3 := Lib.hid (whole_belowM HA2.out hb)
  have HK3 := Lib.hid (whole_belowM HK2.out hb)
  clear hb
  cases shb with
  | false =>
    go_wp2_with fail
    go_ret
    exact ⟨rfl, HB3.out⟩
  | true =>
  obtain ⟨bl, hbl⟩ : ∃ b, decide (3000 < (s.size : Int)) = b := ⟨_, rfl⟩
  cases bl with
  | true =>
    go_wp2_with fail
    go_ret
    exact ⟨rfl, HB3.out⟩
  | false =>
  have HPs := Lib.hid (HP.out (by have := of_decide_eq_false hbl; omega))
  clear HP
  have HTw := HTa.out w3 HB3.out
  go_wp2_with (first
    | (with_reducible show wpList _ _ _ (Oper.mk _ (Op.load 27 _) _ _ _ _ :: _) _ _; refine wpList_load_mid rfl _ _ rfl NA 0 rfl (evC a) _ (Whole.range HA3.out) Tryz.underlying27 rfl (HSp.out.trans rfl) ?_))
  refine HTw.mono ?_
  rintro e w4 ⟨rfl, hb⟩
  have HB4 := Lib.hid (below_step HB3.out hb)
  have HA4 := Lib.hid (whole_belowM HA3.out hb)
  have HK4 := Lib.hid (whole_belowM HK3.out hb)
  clear hb HTw hbl
  have HTw := HTb.out w4 HB4.out
  obtain ⟨eb, Heb⟩ : ∃ z : Int, Hid (z = if vb then 0 else 1) := ⟨_, Lib.hid rfl⟩
  rw [← Heb.out] at HTw
  obtain ⟨ea, Hea⟩ : ∃ z : Int, Hid (z = if va then 0 else 1) := ⟨_, Lib.hid rfl⟩
  rw [← Hea.out]
  go_wp2_with (first
    | (with_reducible show wpList _ _ _ (Oper.mk _ (Op.load 27 _) _ _ _ _ :: _) _ _; refine wpList_load_mid rfl _ _ rfl NB 0 rfl (evC b) _ (Whole.range HK4.out) Tryz.underlying27 rfl (HSp.out.trans rfl) ?_))
  refine HTw.mono ?_
  rintro e w5 ⟨rfl, hb⟩
  have HB5 := Lib.hid (below_step HB4.out hb)
  have HA5 := Lib.hid (whole_belowM HA4.out hb)
  have HK5 := Lib.hid (whole_belowM HK4.out hb)
  clear hb HTw
  cases va with
  | false =>
    obtain rfl := Hae.out (by trivial)
    obtain rfl : ea = 1 := Hea.out
    go_wp2_with (first
      | (with_reducible show wpList _ _ _ (Oper.mk _ (Op.load 27 _) _ _ _ _ :: _) _ _; refine wpList_load_mid rfl _ _ rfl NA 0 rfl (evC a) _ (Whole.range HA5.out) Tryz.underlying27 rfl (HSp.out.trans rfl) ?_))
    refine (HVa.out w5).mono ?_
    rintro e wR ⟨rfl, hb⟩
    have HBR := Lib.hid (below_step HB5.out hb)
    clear hb
    have HPw := HPs.out wR HBR.out
    obtain ⟨pe, Hpe⟩ : ∃ z : Int, Hid (z = if py then 0 else 8) := ⟨_, Lib.hid rfl⟩
    rw [← Hpe.out] at HPw
    go_wp2_with fail
    refine HPw.mono ?_
    rintro e wP ⟨rfl, hb⟩
    have HBP := Lib.hid (below_step HBR.out hb)
    clear hb HPw
    obtain ⟨gy, Hgy⟩ : ∃ g, Hid (g = wP.heap.size) := ⟨_, Lib.hid rfl⟩
    obtain ⟨Y, HY⟩ : ∃ w, Hid (w = wP.alloc (.cells (evC y).toArray 27)) := ⟨_, Lib.hid rfl⟩
    have HWY : Hid (Whole Y gy 27 (evC y).toArray) := Lib.hid (by rw [HY.out]; exact Whole.newAt _ _ Hgy.out)
    have HBY := Lib.hid (below_step HBP.out (show Below wP.heap.size wP Y by rw [HY.out]; exact (Below.refl _ _).alloc (Nat.le_refl _) _))
    go_wp2_with (first
      | (with_reducible show wpList _ _ _ (Oper.mk _ (Op.store 27 _ _) _ _ _ _ :: _) _ _; refine Hid.out ?_))
    refine Lib.hid ?_
    refine wpList_store_new rfl _ _ _ rfl _ (evC y).toArray rfl rfl (HSp.out.trans rfl) rfl HOy.out ?_
    rw [← HY.out, ← Hgy.out]
    cases py with
    | false =>
      obtain rfl : pe = 8 := Hpe.out
      go_wp2_with (first
        | (with_reducible show wpList _ _ _ (Oper.mk _ (Op.load 27 _) _ _ _ _ :: _) _ _; refine Hid.out ?_))
      refine Lib.hid ?_
      refine wpList_load_yes (by kernel_rfl) _ _ rfl gy 0 rfl (evC y) _ (Whole.range HWY.out) Tryz.underlying27 rfl (HSp.out.trans rfl) ?_
      go_wp2_with (first
        | (with_reducible show wpList _ _ _ (Oper.mk _ (Op.binOp .eql 27 _ _ _) _ _ _ _ :: _) _ _; refine Hid.out ?_))
      refine Lib.hid ?_
      refine wpList_run_yes (by kernel_rfl) (run_eqEv _ _ _ _ _ _ _ _ _ y zero HSy.out sz_zero rfl rfl) ?_
      rw [evEq_iff.2 (HPz.out (by trivial))]
      go_wp2_with fail
      go_ret
      exact ⟨rfl, HBY.out⟩
    | true =>
    obtain rfl : pe = 0 := Hpe.out
    have HTw := HTy.out (by trivial) Y HBY.out
    go_wp2_with (first
      | (with_reducible show wpList _ _ _ (Oper.mk _ (Op.load 27 _) _ _ _ _ :: _) _ _; refine wpList_load_mid rfl _ _ rfl gy 0 rfl (evC y) _ (Whole.range HWY.out) Tryz.underlying27 rfl (HSp.out.trans rfl) ?_))
    refine HTw.mono ?_
    rintro e wT ⟨rfl, hb⟩
    have HBT := Lib.hid (below_step HBY.out hb)
    have HWT := Lib.hid (whole_belowM HWY.out hb)
    clear hb HTw
    go_wp2_with (first
      | (with_reducible show wpList _ _ _ (Oper.mk _ (Op.load 27 _) _ _ _ _ :: _) _ _; refine Hid.out ?_))
    refine Lib.hid ?_
    refine wpList_load_yes (by kernel_rfl) _ _ rfl gy 0 rfl (evC y) _ (Whole.range HWT.out) Tryz.underlying27 rfl (HSp.out.trans rfl) ?_
    go_wp2_with fail
    refine (HVy.out (by trivial) wT).mono ?_
    rintro e wU ⟨rfl, hb⟩
    have HBU := Lib.hid (below_step HBT.out hb)
    clear hb
    go_wp2_with fail
    go_ret
    exact ⟨rfl, HBU.out⟩
  | true =>
    obtain rfl : ea = 0 := Hea.out
    go_wp2_with (first
      | (with_reducible show wpList _ _ _ (Oper.mk _ (Op.load 27 _) _ _ _ _ :: _) _ _; refine wpList_load_mid rfl _ _ rfl NA 0 rfl (evC a) _ (Whole.range HA5.out) Tryz.underlying27 rfl (HSp.out.trans rfl) ?_))
    refine (HVa.out w5).mono ?_
    rintro e w6 ⟨rfl, hb⟩
    have HB6 := Lib.hid (below_step HB5.out hb)
    have HA6 := Lib.hid (whole_belowM HA5.out hb)
    have HK6 := Lib.hid (whole_belowM HK5.out hb)
    clear hb
    have HPw := HPa.out (by trivial) w6 HB6.out
    go_wp2_with fail
    refine HPw.mono ?_
    rintro e w7 ⟨rfl, hb⟩
    have HB7 := Lib.hid (below_step HB6.out hb)
    have HA7 := Lib.hid (whole_belowM HA6.out hb)
    have HK7 := Lib.hid (whole_belowM HK6.out hb)
    clear hb HPw
    obtain ⟨gc, Hgc⟩ : ∃ g, Hid (g = w7.heap.size) := ⟨_, Lib.hid rfl⟩
    obtain ⟨wR, HwR⟩ : ∃ w, Hid (w = w7.alloc (.cells (evC a).toArray 27)) := ⟨_, Lib.hid rfl⟩
    have HWC : Hid (Whole wR gc 27 (evC a).toArray) := Lib.hid (by rw [HwR.out]; exact Whole.newAt _ _ Hgc.out)
    have HBq : Hid (Below w7.heap.size w7 wR) := Lib.hid (by rw [HwR.out]; exact (Below.refl _ _).alloc (Nat.le_refl _) _)
    have HBR := Lib.hid (below_step HB7.out HBq.out)
    have HA8 := Lib.hid (whole_belowM HA7.out HBq.out)
    have HK8 := Lib.hid (whole_belowM HK7.out HBq.out)
    go_wp2_with (first
      | (with_reducible show wpList _ _ _ (Oper.mk _ (Op.store 27 _ _) _ _ _ _ :: _) _ _; refine Hid.out ?_))
    refine Lib.hid ?_
    refine wpList_store_new rfl _ _ _ rfl _ (evC a).toArray rfl rfl (HSp.out.trans rfl) rfl HOa.out ?_
    rw [← HwR.out, ← Hgc.out]
    go_wp2_with (first
      | (with_reducible show wpList _ _ _ (Oper.mk _ (Op.load 27 _) _ _ _ _ :: _) _ _; refine Hid.out ?_))
    refine Lib.hid ?_
    refine wpList_join (fun u w' => u 86 = .bool false ∧ wR = w') [70, 71, 72, 73, 74, 75, 76, 77, 78, 79, 80, 81, 82, 83, 84, 85, 86] (by kernel_rfl) ?_ ?_
    · refine wpList_load_yes (by kernel_rfl) _ _ rfl gc 0 rfl (evC a) _ (Whole.range HWC.out) Tryz.underlying27 rfl (HSp.out.trans rfl) ?_
      refine wpList_load_yes (by kernel_rfl) _ _ rfl NA 0 rfl (evC a) _ (Whole.range HA8.out) Tryz.underlying27 rfl (HSp.out.trans rfl) ?_
      refine wpList_run_yes (by kernel_rfl) (run_neqEvG _ _ _ _ _ _ _ _ _ a HSa.out rfl rfl) ?_
      cases vb with
      | false =>
        obtain rfl : eb = 1 := Heb.out
        go_wp2_with fail
        exact join_end rfl ⟨rfl, rfl⟩
      | true =>
        obtain rfl : eb = 0 := Heb.out
        obtain ⟨q, Hq⟩ : ∃ q, Hid (q = evEq a b) := ⟨_, Lib.hid rfl⟩
        have hst : (ta.toList == tb.toList) = q := by rw [Hq.out]; exact Heq.out (by trivial) (by trivial)
        go_wp2_with (first
          | (with_reducible show wpList _ _ _ (Oper.mk _ (Op.load 27 _) _ _ _ _ :: _) _ _; refine Hid.out ?_))
        refine Lib.hid ?_
        refine wpList_load_yes (by kernel_rfl) _ _ rfl NA 0 rfl (evC a) _ (Whole.range HA8.out) Tryz.underlying27 rfl (HSp.out.trans rfl) ?_
        refine wpList_load_yes (by kernel_rfl) _ _ rfl NB 0 rfl (evC b) _ (Whole.range HK8.out) Tryz.underlying27 rfl (HSp.out.trans rfl) ?_
        refine wpList_run_yes (by kernel_rfl) (run_eqEv _ _ _ _ _ _ _ _ _ a b HSa.out HSb.out rfl rfl) ?_
        rw [← Hq.out]
        clear hst
        cases q
        all_goals
          go_wp2_with fail
          exact join_end rfl ⟨rfl, rfl⟩
    rintro u w' ⟨eu, rfl⟩
    simp only [refill, eu]
    clear eu
    go_simp
    have HPw := HPs.out wR HBR.out
    obtain ⟨pe, Hpe⟩ : ∃ z : Int, Hid (z = if py then 0 else 8) := ⟨_, Lib.hid rfl⟩
    rw [← Hpe.out] at HPw
    go_wp2_with fail
    refine HPw.mono ?_
    rintro e wP ⟨rfl, hb⟩
    have HBP := Lib.hid (below_step HBR.out hb)
    clear hb HPw
    obtain ⟨gy, Hgy⟩ : ∃ g, Hid (g = wP.heap.size) := ⟨_, Lib.hid rfl⟩
    obtain ⟨Y, HY⟩ : ∃ w, Hid (w = wP.alloc (.cells (evC y).toArray 27)) := ⟨_, Lib.hid rfl⟩
    have HWY : Hid (Whole Y gy 27 (evC y).toArray) := Lib.hid (by rw [HY.out]; exact Whole.newAt _ _ Hgy.out)
    have HBY := Lib.hid (below_step HBP.out (show Below wP.heap.size wP Y by rw [HY.out]; exact (Below.refl _ _).alloc (Nat.le_refl _) _))
    go_wp2_with (first
      | (with_reducible show wpList _ _ _ (Oper.mk _ (Op.store 27 _ _) _ _ _ _ :: _) _ _; refine Hid.out ?_))
    refine Lib.hid ?_
    refine wpList_store_new rfl _ _ _ rfl _ (evC y).toArray rfl rfl (HSp.out.trans rfl) rfl HOy.out ?_
    rw [← HY.out, ← Hgy.out]
    cases py with
    | false =>
      obtain rfl : pe = 8 := Hpe.out
      go_wp2_with (first
        | (with_reducible show wpList _ _ _ (Oper.mk _ (Op.load 27 _) _ _ _ _ :: _) _ _; refine Hid.out ?_))
      refine Lib.hid ?_
      refine wpList_load_yes (by kernel_rfl) _ _ rfl gy 0 rfl (evC y) _ (Whole.range HWY.out) Tryz.underlying27 rfl (HSp.out.trans rfl) ?_
      go_wp2_with (first
        | (with_reducible show wpList _ _ _ (Oper.mk _ (Op.binOp .eql 27 _ _ _) _ _ _ _ :: _) _ _; refine Hid.out ?_))
      refine Lib.hid ?_
      refine wpList_run_yes (by kernel_rfl) (run_eqEv _ _ _ _ _ _ _ _ _ y zero HSy.out sz_zero rfl rfl) ?_
      rw [evEq_iff.2 (HPz.out (by trivial))]
      go_wp2_with fail
      go_ret
      exact ⟨rfl, HBY.out⟩
    | true =>
    obtain rfl : pe = 0 := Hpe.out
    have HTw := HTy.out (by trivial) Y HBY.out
    go_wp2_with (first
      | (with_reducible show wpList _ _ _ (Oper.mk _ (Op.load 27 _) _ _ _ _ :: _) _ _; refine wpList_load_mid rfl _ _ rfl gy 0 rfl (evC y) _ (Whole.range HWY.out) Tryz.underlying27 rfl (HSp.out.trans rfl) ?_))
    refine HTw.mono ?_
    rintro e wT ⟨rfl, hb⟩
    have HBT := Lib.hid (below_step HBY.out hb)
    have HWT := Lib.hid (whole_belowM HWY.out hb)
    clear hb HTw
    go_wp2_with (first
      | (with_reducible show wpList _ _ _ (Oper.mk _ (Op.load 27 _) _ _ _ _ :: _) _ _; refine Hid.out ?_))
    refine Lib.hid ?_
    refine wpList_load_yes (by kernel_rfl) _ _ rfl gy 0 rfl (evC y) _ (Whole.range HWT.out) Tryz.underlying27 rfl (HSp.out.trans rfl) ?_
    go_wp2_with fail
    refine (HVy.out (by trivial) wT).mono ?_
    rintro e wU ⟨rfl, hb⟩
    have HBU := Lib.hid (below_step HBT.out hb)
    clear hb
    go_wp2_with fail
    go_ret
    exact ⟨rfl, HBU.out⟩
end Go.Proofs.YtbnofoncapaabaaGreatDoor
