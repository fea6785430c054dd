/- LinkFurther. -/
import Derived.Test.YtolnpimnoajcaaaLnkFurM
import Derived.Test.YtolnpimnoajcaaaLnkIn
import Derived.Test.YtolnpimnoajcaaaLnkOf
namespace Go.Proofs.Ytolnpimnoajcaaa
open Go.RowKit Go.Maps Go.WideMaps
open Evt Lnk
theorem bool_of (P : Prop) : ∃ b : Bool, Hid (b = true ↔ P) := by
  by_cases h : P
  · exact ⟨true, Lib.hid ⟨fun _ => h, fun _ => rfl⟩⟩
  · exact ⟨false, Lib.hid ⟨fun h => (by cases h), fun h' => absurd h' h⟩⟩

set_option maxRecDepth 100000 in
set_option maxHeartbeats 32000000 in
theorem further_any (ao : Option Addr) (l : List Rp) (cap : Nat) (hlc : l.length ≤ cap) (hcp : cap ≤ 9223372036854775807) (h32 : l.length * 32 ≤ 140737488351232) (x : Rp) (oo : Option Addr) (oc : Nat) (ho1 : x.opts.length ≤ oc) (ho2 : oc ≤ 9223372036854775807) (W : World) (hi : IsL 2 ElRp W ao l) (hx : IsL 14 ElEv W oo x.opts) :
    Calls Try.prog 8 #[.slice ao l.length cap, .agg #[.slice oo x.opts.length oc, .bool x.doubt]] W fun e w' => e = .returned (.bool true) ∧ Below W.heap.size W w' := by
  have HI := Lib.hid hi
  have HX := Lib.hid (show ElRp W [.slice oo x.opts.length oc, .bool x.doubt] x from ⟨oo, oc, rfl, hx, ho1, ho2⟩)
  have HXo := Lib.hid hx
  clear hi hx
  obtain ⟨n, Hn⟩ : ∃ n, Hid (n = l.length) := ⟨_, Lib.hid rfl⟩
  obtain ⟨on, Hon⟩ : ∃ n, Hid (n = x.opts.length) := ⟨_, Lib.hid rfl⟩
  obtain ⟨xd, Hxd⟩ : ∃ n, Hid (n = x.doubt) := ⟨_, Lib.hid rfl⟩
  rw [← Hn.out] at hlc h32 ⊢
  rw [← Hon.out] at HX ho1 ⊢
  rw [← Hxd.out] at HX ⊢
  obtain ⟨bx, Hbx⟩ : ∃ g, Hid (g = W.heap.size) := ⟨_, Lib.hid rfl⟩
  obtain ⟨V, HV⟩ : ∃ w, Hid (w = W.alloc (.cells #[.slice oo on oc, .bool xd] 40)) := ⟨_, Lib.hid rfl⟩
  have HBV : Hid (Below W.heap.size W V) := Lib.hid (by rw [HV.out]; exact (Below.refl _ _).alloc (Nat.le_refl _) _)
  have HWV : Hid (Whole V bx 40 #[.slice oo on oc, .bool xd]) := Lib.hid (by rw [HV.out, Hbx.out]; exact Whole.new _ _ _)
  have HHd := Lib.hid (head_any V)
  go_enter Try.func8, Try.ntmps8
  go_wp2_with fail
  rw [← HV.out, ← Hbx.out]
  refine HHd.out.mono ?_
  rintro e w1 ⟨rfl, hb⟩
  have HB1 := Lib.hid (below_step HBV.out hb)
  have HI1 := Lib.hid (HI.out.below stRp HB1.out)
  have HX1 := Lib.hid (stRp _ _ _ _ HX.out HB1.out)
  have HW1 := Lib.hid (whole_belowM HWV.out hb)
  clear hb
  go_wp2_with fail
  apply wp_region_facts 145 moK (moP w1 l x oo on oc xd) (moV ao n cap oo on oc xd) (by kernel_rfl) (by kernel_rfl) rfl
  · intro j tt hj
    match j, hj with
    | 4, _ => exact (Below.refl _ _).drew
    | 0, hj | 1, hj | 2, hj | 3, hj | 5, hj => simp [moK] at hj
    | _ + 6, hj => simp [moK] at hj
  · intro i oo' ho' e w A' hT hei hsee haway
    have s0 : A'.eval (.tmp 0) = .slice ao n cap := (haway 0 (by kernel_rfl)).trans rfl
    have s3 : A'.eval (.tmp 3) = .pointer (some ⟨bx, 0, none⟩) := (haway 3 (by kernel_rfl)).trans rfl
    have hlow : Below w1.heap.size w1 w := hT.base 4 none rfl (fun _ h => by cases h)
    have hbox := whole_belowM HW1.out hlow
    have hi : i < 7 := by have := (List.getElem?_eq_some_iff.1 ho').1; simpa using this
    have hi : i = 0 ∨ i = 1 ∨ i = 2 ∨ i = 3 ∨ i = 4 ∨ i = 5 ∨ i = 6 := by omega
    rcases hi with rfl | rfl | rfl | rfl | rfl | rfl | rfl
    all_goals
      simp only [List.getElem?_cons_succ, List.getElem?_cons_zero, Option.some.injEq] at ho'
      subst ho'
    · refine wp_of_runL (run_emptyRp _ _ _ _ _ _ _) ⟨_, rfl, trivial, .below moP_below ((Below.refl _ _).alloc (Nat.le_refl _) _) ?_⟩
      intro j tt hj
      match j, hj with
      | 0, _ => exact ⟨_, rfl, hlow.size, Whole.new _ _ _⟩
      | 1, hj | 2, hj | 3, hj | 4, hj | 5, hj => simp [moK] at hj
      | _ + 6, hj => simp [moK] at hj
    · exact wp_of_runL (run_moveL _ _ _ _ _ _ _ 0 _ s0) ⟨_, rfl, rfl, .plain moP_below (Below.refl _ _) (by decide)⟩
    · have h5 : e 5 = none := by
        cases hx : e 5 with
        | none => rfl
        | some v => exact absurd hei (hT.order 5 2 (by rw [hx]; simp) (by kernel_rfl))
      obtain ⟨v0, hv0⟩ : ∃ v, A'.eval (.tmp 20) = v := ⟨_, rfl⟩
      have q0 := (hsee 20 0 (by kernel_rfl) rfl).1
      rw [hv0] at q0
      obtain ⟨g, rfl, q1, q2⟩ := hT.of 0 (some 5) 0 rfl (fun j h => by cases h; exact h5) _ q0
      have q3 : A'.eval (.tmp 21) = .slice ao n cap := (hsee 21 1 (by kernel_rfl) rfl).2
      obtain ⟨v, w', hr, r1, r2⟩ := run_copy_rp 22 hlow q2 q1 (c := cap) Hn.out h32 HI1.out
      refine wp_of_runL (run_appendRp _ _ _ _ _ _ _ w' 20 21 _ _ _ hv0 q3 hr) ⟨_, rfl, trivial, .below moP_below r2 ?_⟩
      intro j tt hj
      match j, hj with
      | 1, _ => exact r1
      | 0, hj | 2, hj | 3, hj | 4, hj | 5, hj => simp [moK] at hj
      | _ + 6, hj => simp [moK] at hj
    · exact wp_of_runL (run_loadRp _ _ _ _ _ _ _ 3 _ 0 _ _ s3 (hbox.cell 0) (hbox.cell 1)) ⟨_, rfl, rfl, .plain moP_below (Below.refl _ _) (by decide)⟩
    · have q3 : A'.eval (.tmp 23) = .agg #[.slice oo on oc, .bool xd] := (hsee 23 3 (by kernel_rfl) rfl).2
      refine wp_of_runL (run_oneRp _ _ _ _ _ _ _ 23 _ _ q3) ⟨_, rfl, trivial, .below moP_below ((Below.refl _ _).alloc (Nat.le_refl _) _) ?_⟩
      intro j tt hj
      match j, hj with
      | 2, _ => exact ⟨_, rfl, Whole.new _ _ _⟩
      | 0, hj | 1, hj | 3, hj | 4, hj | 5, hj => simp [moK] at hj
      | _ + 6, hj => simp [moK] at hj
    · obtain ⟨v2, hv2⟩ : ∃ v, A'.eval (.tmp 22) = v := ⟨_, rfl⟩
      obtain ⟨v4, hv4⟩ : ∃ v, A'.eval (.tmp 24) = v := ⟨_, rfl⟩
      have q2 := (hsee 22 2 (by kernel_rfl) rfl).1
      have q4 := (hsee 24 4 (by kernel_rfl) rfl).1
      rw [hv2] at q2
      rw [hv4] at q4
      have ho := hT.of 1 (some 5) 2 rfl (fun j h => by cases h; exact hei) _ q2
      obtain ⟨g, rfl, hg⟩ := hT.of 2 (some 5) 4 rfl (fun j h => by cases h; exact hei) _ q4
      obtain ⟨v, w', hr, r1, r2⟩ := run_more_rp 22 hlow ho (by rw [← Hn.out]; exact h32) hg HX1.out
      refine wp_of_runL (run_appendRp _ _ _ _ _ _ _ w' 22 24 _ _ _ hv2 hv4 hr) ⟨_, rfl, trivial, ?_, ?_⟩
      · intro j tt hj
        match j, hj with
        | 3, _ => exact r1
        | 0, hj | 1, hj | 2, hj | 4, hj | 5, hj => simp [moK] at hj
        | _ + 6, hj => simp [moK] at hj
      · intro j p hj h1 h2 h3 y hy
        match j, hj, hy with
        | 0, hj, _ => cases hj; exact absurd rfl h1
        | 1, hj, _ => cases hj; exact absurd rfl h1
        | 2, hj, _ => cases hj; exact absurd rfl h1
        | 3, hj, _ => cases hj; exact absurd rfl h2
        | 4, _, _ => exact r2
        | 5, hj, _ => cases hj; exact Bool.noConfusion ((show true = _ from by kernel_rfl).trans (h3 6 rfl))
        | _ + 6, _, _ => trivial
    · obtain ⟨v5, hv5⟩ : ∃ v, A'.eval (.tmp 25) = v := ⟨_, rfl⟩
      have q5 := (hsee 25 5 (by kernel_rfl) rfl).1
      rw [hv5] at q5
      have ho : OwnRp w1 w v5 (l ++ [x]) := hT.of 3 none 5 rfl (fun _ h => by cases h) _ q5
      refine wp_of_runL (run_assignL _ _ _ _ _ _ _ 25 _ hv5) ⟨_, rfl, trivial, .below moP_below (Below.refl _ _) ?_⟩
      intro j tt hj
      match j, hj with
      | 5, _ => exact ho
      | 0, hj | 1, hj | 2, hj | 3, hj | 4, hj => simp [moK] at hj
      | _ + 6, hj => simp [moK] at hj
  intro e w2 hT hall
  obtain ⟨v0, e0⟩ := hall 0 (by decide)
  obtain ⟨v1, e1⟩ := hall 1 (by decide)
  obtain ⟨v2, e2⟩ := hall 2 (by decide)
  obtain ⟨v3, e3⟩ := hall 3 (by decide)
  obtain ⟨v4, e4⟩ := hall 4 (by decide)
  obtain ⟨v5, e5⟩ := hall 5 (by decide)
  obtain ⟨v6, e6⟩ := hall 6 (by decide)
  have hlow : Below w1.heap.size w1 w2 := hT.base 4 none rfl (fun _ h => by cases h)
  have hown : OwnRp w1 w2 v6 (l ++ [x]) := hT.of 5 none 6 rfl (fun _ h => by cases h) _ e6
  obtain ⟨mo, mn, mc, rfl⟩ : ∃ a b c, v6 = .slice a b c := by
    obtain ⟨css, _, _, _, q4⟩ := hown.ex
    obtain ⟨a, c, e⟩ := owns_shapeM q4
    exact ⟨a, _, c, e⟩
  obtain ⟨hmn, hml⟩ := hown.isL hlow
  have hmn2 : mn = n + 1 := by rw [hmn, List.length_append, Hn.out]; rfl
  subst hmn2
  have HM2 := Lib.hid hml
  have HB2 := Lib.hid (below_step HB1.out hlow)
  have HI2 := Lib.hid (HI1.out.below stRp hlow)
  have HW2 := Lib.hid (whole_belowM HW1.out hlow)
  have HLm : Hid ((l ++ [x]).length = n + 1) := Lib.hid hmn.symm
  simp only [List.length_cons, List.length_nil, Nat.reduceAdd, fillTo, e0, e1, e2, e3, e4, e5, e6, dstOf]
  clear e0 e1 e2 e3 e4 e5 e6 hT hall hown hml hmn hlow
  obtain ⟨ml, Hml⟩ : ∃ y, Hid (y = l ++ [x]) := ⟨_, Lib.hid rfl⟩
  rw [← Hml.out] at HM2 HLm
  have HFw := Lib.hid (few14_any mo ml mc (by rw [HLm.out]; omega) w2 HM2.out)
  rw [HLm.out] at HFw
  go_wp2_with fail
  refine HFw.out.mono ?_
  rintro e w3 ⟨b, rfl, hq, hb⟩
  have HB3 := Lib.hid (below_step HB2.out hb)
  have HI3 := Lib.hid (HI2.out.below stRp hb)
  have HM3 := Lib.hid (HM2.out.below stRp hb)
  have HW3 := Lib.hid (whole_belowM HW2.out hb)
  clear hb
  cases b with
  | false =>
    go_wp2_with fail
    go_ret
    exact ⟨rfl, HB3.out⟩
  | true =>
  have hn40 : n ≤ 39 := by have := hq rfl; omega
  clear hq
  have HNx := Lib.hid (fun w (hw : IsL 14 ElEv w oo x.opts) => repNames_any x oo oc (by rw [← Hon.out]; exact ho1) ho2 w hw)
  have Hnm := Lib.hid (fun (r : Rp) (oo : Option Addr) (oc : Nat) (h1 : r.opts.length ≤ oc) (h2 : oc ≤ 9223372036854775807) (w : World) (h3 : IsL 14 ElEv w oo r.opts) => repNames_any r oo oc h1 h2 w h3)
  have HIn := Lib.hid (fun (z : ByteArray) w va h => in_any (namesR x) (by have := namesR_len x; omega) z w va h)
  rw [← Hon.out, ← Hxd.out] at HNx
  have hmm := @run_makeMap Try.prog
  have HCm := Lib.hid (comp_any coll_any ao l cap (by rw [← Hn.out]; omega) w3 HI3.out)
  rw [← Hn.out] at HCm
  go_wp2_with fail
  refine HCm.out.mono ?_
  rintro e w4 ⟨sv, r, rfl, hr, hs, hb⟩
  rw [← Hn.out] at hs
  have HRr := Lib.hid hr
  have HB4 := Lib.hid (below_step HB3.out hb)
  have HI4 := Lib.hid (HI3.out.below stRp hb)
  have HM4 := Lib.hid (HM3.out.below stRp hb)
  have HW4 := Lib.hid (whole_belowM HW3.out hb)
  have HOf := Lib.hid (of_any n (by omega) r _ _ sv hs)
  clear hs hb hr
  go_wp2_with fail
  refine HOf.out.mono ?_
  rintro e w5 ⟨ga, rfl, -, hp, hb⟩
  have HPa5 := Lib.hid hp
  have HB5 := Lib.hid (below_step HB4.out hb)
  have HI5 := Lib.hid (HI4.out.below stRp hb)
  have HM5 := Lib.hid (HM4.out.below stRp hb)
  have HW5 := Lib.hid (whole_belowM HW4.out hb)
  clear hp hb
  have HCn := Lib.hid (comp_any coll_any mo ml mc (by rw [HLm.out]; omega) w5 HM5.out)
  rw [HLm.out] at HCn
  go_wp2_with fail
  refine HCn.out.mono ?_
  rintro e w6 ⟨tv, s, rfl, hr, hs, hb⟩
  rw [HLm.out] at hs hr
  have HRs := Lib.hid hr
  have HB6 := Lib.hid (below_step HB5.out hb)
  have HI6 := Lib.hid (HI5.out.below stRp hb)
  have HW6 := Lib.hid (whole_belowM HW5.out hb)
  have HPa6 := Lib.hid (HPa5.out.below hb)
  have HOg := Lib.hid (of_any (n + 1) (by omega) s _ _ tv hs)
  rw [show (((n + 1 : Nat) : Int)) = (n : Int) + 1 from by omega] at HOg
  clear hs hb hr
  go_wp2_with fail
  refine HOg.out.mono ?_
  rintro e w7 ⟨gb, rfl, -, hp, hb⟩
  have HPb7 := Lib.hid hp
  have HB7 := Lib.hid (below_step HB6.out hb)
  have HI7 := Lib.hid (HI6.out.below stRp hb)
  have HW7 := Lib.hid (whole_belowM HW6.out hb)
  have HPa7 := Lib.hid (HPa6.out.below hb)
  clear hp hb
  obtain ⟨A, HA⟩ : ∃ y, Hid (y = num r n) := ⟨_, Lib.hid rfl⟩
  obtain ⟨B, HBn⟩ : ∃ y, Hid (y = num s (n + 1)) := ⟨_, Lib.hid rfl⟩
  rw [← HA.out] at HPa7
  rw [← HBn.out] at HPb7
  have HAr : Hid (∀ i j, i < n → j < n → (A i = A j ↔ r i = r j)) := Lib.hid (fun i j hi hj => by rw [HA.out]; exact num_eqF hi hj)
  have HAle : Hid (∀ i, i < n → A i ≤ 1000000) := Lib.hid (fun i hi => by
    obtain ⟨t, _, h1, h2⟩ := num_ex (r := r) hi
    rw [groups_len] at h1
    have := reps_len r n
    rw [HA.out, h2]; omega)
  have HJn : Hid (∀ i, i < n → (JoinN l x A n 0 (A i) ↔ Joins l x i)) := Lib.hid (fun i hi => by
    have := JoinN.end (x := x) HRr.out (A := A) (fun i j hi hj => HAr.out i j (by rw [Hn.out]; exact hi) (by rw [Hn.out]; exact hj)) (i := i) (by rw [← Hn.out]; exact hi)
    rw [← Hn.out] at this
    exact this)
  have HNew : Hid (∀ i, i < n → (B i = B n ↔ Joins l x i)) := Lib.hid (fun i hi => by
    rw [HBn.out, num_eqF (by omega) (by omega), HRs.out i n (by omega) (by omega), Hml.out]
    have := conn_new (l := l) (x := x) (i := i) (by rw [← Hn.out]; exact hi)
    rw [← Hn.out] at this
    exact this)
  have HOld : Hid (∀ i k, i < n → k < n → (B i = B k ↔ (A i = A k ∨ (Joins l x i ∧ Joins l x k)))) := Lib.hid (fun i k hi hk => by
    rw [HBn.out, num_eqF (by omega) (by omega), HRs.out i k (by omega) (by omega), Hml.out, HAr.out i k hi hk, HRr.out i k (by rw [← Hn.out]; exact hi) (by rw [← Hn.out]; exact hk)]
    have := conn_old (l := l) (x := x) (i := i) (k := k) (by rw [← Hn.out]; exact hi) (by rw [← Hn.out]; exact hk)
    rw [← Hn.out] at this ⊢
    exact this)
  have hx0 := HW7.out.cell 0
  have hx1 := HW7.out.cell 1
  have HNc := Lib.hid (HNx.out w7 (HXo.out.below stEv HB7.out))
  go_wp2_with fail
  refine HNc.out.mono ?_
  rintro e w8 ⟨nv, rfl, ho, hb⟩
  have HS8 := Lib.hid (IsS.owns ho)
  have HB8 := Lib.hid (below_step HB7.out hb)
  have HI8 := Lib.hid (HI7.out.below stRp hb)
  have HPa8 := Lib.hid (HPa7.out.below hb)
  have HPb8 := Lib.hid (HPb7.out.below hb)
  obtain ⟨no, nc, Hnv⟩ : ∃ a c, Hid (nv = .slice a (namesR x).length c) := by obtain ⟨a, c, e, _⟩ := HS8.out; exact ⟨a, c, Lib.hid e⟩
  clear ho hb hx0 hx1
  obtain ⟨mb, Hmb⟩ : ∃ g, Hid (g = w8.heap.size) := ⟨_, Lib.hid rfl⟩
  obtain ⟨X, HXw⟩ : ∃ w, Hid (w = w8.alloc (.map #[] 0)) := ⟨_, Lib.hid rfl⟩
  have HF0 : Hid (FSt w8 mb 0 (JoinN l x A 0 0) X) := Lib.hid (by rw [HXw.out]; exact FSt.made (fun z => JoinN.start) (Below.refl _ _) Hmb.out)
  have hmW : w8.heap.size ≤ mb := by rw [Hmb.out]; exact Nat.le_refl _
  go_wp2_with fail
  rw [← HXw.out, ← Hmb.out]
  go_loopw [14] (fun i wr => ∃ q : Nat, q ≤ n ∧ i = .int .i64 q ∧ Hid (FSt w8 mb (8 * q) (JoinN l x A q 0) wr)) (fun i _ => n - (intOf i).toNat)
  case atStart => exact ⟨0, Nat.zero_le _, by go_num, HF0⟩
  case round =>
    obtain ⟨q, hq, rfl, HQ⟩ := hrel
    by_cases hqn : q < n
    · have hd2 : decide ((q : Int) < n) = true := decide_eq_true (by omega)
      have hb0 : (0 : Int) ≤ q := by omega
      have hb1 : (q : Int) < n := by omega
      have hql : q < l.length := by rw [← Hn.out]; exact hqn
      have HBr := Lib.hid HQ.out.low
      have HIr := Lib.hid (HI8.out.below stRp HBr.out)
      obtain ⟨bk, off, cs, rfl, hbk, hrg, o2, c2, rfl, hel, hoc1, hoc2⟩ := HIr.out.at hql
      obtain ⟨y, Hy⟩ : ∃ m, Hid (m = l[q]) := ⟨_, Lib.hid rfl⟩
      rw [← Hy.out] at hrg hel hoc1
      obtain ⟨ss, Hss⟩ : ∃ ss, Hid (ss = namesR y) := ⟨_, Lib.hid rfl⟩
      have HNq : Hid (namesAt l q = ss) := Lib.hid (by rw [namesAt_get hql, Hss.out, Hy.out])
      have hm8 : ss.length ≤ 8 := by rw [Hss.out]; exact namesR_len y
      have c0 := hrg 0 _ rfl
      have c1 := hrg 1 _ rfl
      rw [Nat.add_zero] at c0
      have HN2 := Lib.hid (Hnm.out y o2 c2 hoc1 hoc2 wr hel)
      rw [← Hss.out] at HN2
      obtain ⟨yn, Hyn⟩ : ∃ m, Hid (m = y.opts.length) := ⟨_, Lib.hid rfl⟩
      obtain ⟨yd, Hyd⟩ : ∃ m, Hid (m = y.doubt) := ⟨_, Lib.hid rfl⟩
      rw [← Hyn.out] at c0 HN2
      rw [← Hyd.out] at c1 HN2
      obtain ⟨G, HG⟩ : ∃ g, Hid (g = wr.heap.size) := ⟨_, Lib.hid rfl⟩
      have hmG : mb < G := by rw [HG.out]; obtain ⟨cnt, f, h1, h2, _⟩ := HQ.out.ex; exact h2.lt
      rw [← HG.out] at HN2
      clear hrg hel hoc1
      go_wp2_with fail
      refine HN2.out.mono ?_
      rintro e w9 ⟨v5, rfl, ho5, hb5⟩
      have HM5' : Hid (FSt w8 mb (8 * q + 0) (JoinN l x A q 0) w9) := Lib.hid (by
        rw [HG.out] at hb5
        exact HQ.out.below hb5)
      obtain ⟨a5, c5, rfl⟩ := ho5.shape
      have HO5 := Lib.hid ho5
      obtain ⟨m, Hm⟩ : ∃ m, Hid (m = ss.length) := ⟨_, Lib.hid rfl⟩
      rw [← Hm.out] at HO5 hm8 ⊢
      clear hb5 ho5 c0 c1
      obtain ⟨wo, rfl⟩ : ∃ y, y = wr := ⟨_, rfl⟩
      go_wp2_with fail
      go_loopw [16] (fun i ws => ∃ j : Nat, j ≤ m ∧ i = .int .i64 j ∧ Hid (FSt w8 mb (8 * q + j) (JoinN l x A q j) ws ∧ OwnS G ws (.slice a5 m c5) ss)) (fun i _ => m - (intOf i).toNat)
      case atStart => exact ⟨0, Nat.zero_le _, by go_num, Lib.hid ⟨HM5'.out, HO5.out⟩⟩
      case round =>
        obtain ⟨j, hj, rfl, HJ⟩ := hrel
        by_cases hjm : j < m
        · have hd3 : decide ((j : Int) < m) = true := decide_eq_true (by omega)
          have hj0 : (0 : Int) ≤ j := by omega
          have hj1 : (j : Int) < m := by omega
          have hjs : j < ss.length := by rw [← Hm.out]; exact hjm
          obtain ⟨g3, c4, hv, hnews⟩ := HJ.out.2.news (fun e => by rw [e] at hjs; simp at hjs)
          injection hv with hv1 hv2 hv3
          subst hv1
          obtain ⟨s3, Hs⟩ : ∃ s, Hid (s = ss[j]) := ⟨_, Lib.hid rfl⟩
          have Hs2 : Hid (ss[j]? = some s3) := Lib.hid (by rw [Hs.out]; exact List.getElem?_eq_getElem hjs)
          have cs : wr.cell? ⟨g3, j, none⟩ = some (.string ⟨s3.toArray⟩) := by
            have := hnews j _ (by rw [List.getElem?_map, Hs2.out]; rfl)
            rwa [ptr_add0] at this
          have HIj := Lib.hid (HIn.out ⟨s3.toArray⟩ wr nv (HS8.out.below HJ.out.1.low))
          have hbt : bts ⟨s3.toArray⟩ = s3 := by unfold bts; simp
          rw [hbt] at HIj
          obtain ⟨R, HR⟩ : ∃ b, Hid (b = decide (s3 ∈ namesR x)) := ⟨_, Lib.hid rfl⟩
          rw [← HR.out] at HIj
          have HJx : Hid (∀ z, JoinN l x A q (j + 1) z ↔ (JoinN l x A q j z ∨ (A q = z ∧ R = true))) := Lib.hid (fun z => by
            have hjq : j < (namesAt l q).length := by rw [HNq.out]; exact hjs
            rw [JoinN.name hjq]
            have : (namesAt l q)[j] = s3 := by rw [Hs.out]; simp only [HNq.out]
            rw [this, HR.out, decide_eq_true_eq])
          clear hnews hv2 hv3 hbt
          go_wp2_with fail
          refine HIj.out.mono ?_
          rintro e wa ⟨rfl, hba⟩
          have HJa := Lib.hid (HJ.out.1.below hba)
          have HOa := Lib.hid (HJ.out.2.below hba)
          clear hba cs
          cases R with
          | false =>
            have HJn' : Hid (FSt w8 mb (8 * q + (j + 1)) (JoinN l x A q (j + 1)) wa) := Lib.hid ((HJa.out.mono (by omega)).congr (fun z => by rw [HJx.out z]; simp))
            go_wp2_with fail
            go_round
            case rel => exact ⟨j + 1, by omega, by go_num, Lib.hid ⟨HJn'.out, HOa.out⟩⟩
            case measure => simp [intOf]; omega
          | true =>
            obtain ⟨aq, Haq⟩ : ∃ y, Hid (y = A q) := ⟨_, Lib.hid rfl⟩
            have haq : aq ≤ 1000000 := by rw [Haq.out]; exact HAle.out q hqn
            have ca : wa.cell? ⟨ga, q, none⟩ = some (.int .i64 aq) := by rw [Haq.out]; exact (HPa8.out.below HJa.out.low).cell hqn
            obtain ⟨wb, hpt, hF, hg⟩ := HJa.out.put hmW (by unfold maxLen; omega) haq
            have HFb : Hid (FSt w8 mb (8 * q + (j + 1)) (JoinN l x A q (j + 1)) wb) := Lib.hid (hF.congr (fun z => by rw [HJx.out z, Haq.out]; simp))
            have HOb : Hid (OwnS G wb (.slice (some ⟨g3, 0, none⟩) m c5) ss) := Lib.hid (HOa.out.keptL hmG hg)
            clear hF hg haq
            go_wp2_with fail
            go_round
            case rel => exact ⟨j + 1, by omega, by go_num, Lib.hid ⟨HFb.out, HOb.out⟩⟩
            case measure => simp [intOf]; omega
        · obtain rfl : j = m := by omega
          have hd3 : decide ((j : Int) < j) = false := decide_eq_false (by omega)
          have HM6 : Hid (FSt w8 mb (8 * (q + 1)) (JoinN l x A (q + 1) 0) wr) := Lib.hid ((HJ.out.1.mono (by omega)).congr (fun z => by
            rw [← JoinN.next, HNq.out, ← Hm.out]))
          go_wp2_with fail
          go_round
          case rel => exact ⟨q + 1, by omega, by go_num, HM6⟩
          case measure => simp [intOf]; omega
    · obtain rfl : q = n := by omega
      have hd2 : decide ((q : Int) < q) = false := decide_eq_false (by omega)
      obtain ⟨n, rfl⟩ : ∃ y, y = q := ⟨_, rfl⟩
      obtain ⟨we, rfl⟩ : ∃ y, y = wr := ⟨_, rfl⟩
      have HFe := HQ
      have HPa := Lib.hid (HPa8.out.below HQ.out.low)
      have HPb := Lib.hid (HPb8.out.below HQ.out.low)
      have HBe := Lib.hid (below_step HB8.out HQ.out.low)
      clear HQ HIn HNx Hnm hmm
      go_wp2_with fail
      go_loopw [17] (fun i ws => ∃ q : Nat, q ≤ n ∧ i = .int .i64 q ∧ Hid (Below we.heap.size we ws)) (fun i _ => n - (intOf i).toNat)
      case atStart => exact ⟨0, Nat.zero_le _, by go_num, Lib.hid (Below.refl _ _)⟩
      case round =>
        obtain ⟨q, hq, rfl, HQ⟩ := hrel
        by_cases hqn : q < n
        · have hd2 : decide ((q : Int) < n) = true := decide_eq_true (by omega)
          have hb0 : (0 : Int) ≤ q := by omega
          have hb1 : (q : Int) < n := by omega
          have hb2 : (q : Int) < (n : Int) + 1 := by omega
          have hn0 : (0 : Int) ≤ n := by omega
          have hn1 : (n : Int) < (n : Int) + 1 := by omega
          obtain ⟨aq, Haq⟩ : ∃ y, Hid (y = A q) := ⟨_, Lib.hid rfl⟩
          obtain ⟨bq, Hbq⟩ : ∃ y, Hid (y = B q) := ⟨_, Lib.hid rfl⟩
          obtain ⟨bn, Hbn⟩ : ∃ y, Hid (y = B n) := ⟨_, Lib.hid rfl⟩
          obtain ⟨jq, Hjq⟩ := bool_of (Joins l x q)
          have haq : aq ≤ 1000000 := by rw [Haq.out]; exact HAle.out q hqn
          have ga1 : ∀ Z : Grown wr, Z.w.cell? ⟨ga, q, none⟩ = some (.int .i64 (aq : Nat)) := fun Z => by rw [Haq.out]; exact (HPa.out.below (below_step HQ.out Z.below)).cell hqn
          have gb1 : ∀ Z : Grown wr, Z.w.cell? ⟨gb, q, none⟩ = some (.int .i64 (bq : Nat)) := fun Z => by rw [Hbq.out]; exact (HPb.out.below (below_step HQ.out Z.below)).cell (by omega)
          have gb2 : ∀ Z : Grown wr, Z.w.cell? ⟨gb, n, none⟩ = some (.int .i64 (bn : Nat)) := fun Z => by rw [Hbn.out]; exact (HPb.out.below (below_step HQ.out Z.below)).cell (by omega)
          have gl : ∀ Z : Grown wr, (Instr.lookup 44 (.map (some mb)) (.int .i64 aq) false).run Try.prog Z.w = .ok (.bool jq) Z.w := fun Z => (HFe.out.below (below_step HQ.out Z.below)).look haq (by rw [Haq.out]; exact Hjq.out.trans (HJn.out q hqn).symm)
          have HE : Hid (bq = bn ↔ jq = true) := Lib.hid (by rw [Hbq.out, Hbn.out, Hjq.out]; exact HNew.out q hqn)
          cases jq with
          | true =>
            have e1 : ((bq : Int) == bn) = true := by have := HE.out.2 rfl; simp; omega
            go_wp2_with fail
            refine wp_region_grown (by kernel_rfl) (by kernel_rfl) ?_
            repeat (go_big_quiet_step (fail))
            refine wpQuiet_nil ?_
            rintro _ ⟨Z, rfl⟩
            have HBZ := Lib.hid (below_step HQ.out Z.below)
            go_wp2_with fail
            obtain ⟨wq, Hwq⟩ : ∃ y, Hid (y = Z.w) := ⟨_, Lib.hid rfl⟩
            rw [← Hwq.out] at HBZ ⊢
            clear ga1 gb1 gb2 gl HE e1 Hjq
            obtain ⟨jq, Hjq⟩ := bool_of (Joins l x q)
            go_loopw [18] (fun i ws => ∃ p : Nat, p ≤ q ∧ i = .int .i64 p ∧ Hid (Below we.heap.size we ws)) (fun i _ => q - (intOf i).toNat)
            case atStart => exact ⟨0, Nat.zero_le _, by go_num, HBZ⟩
            case round =>
              obtain ⟨p, hp, rfl, HP⟩ := hrel
              by_cases hpq : p < q
              · have hd3 : decide ((p : Int) < q) = true := decide_eq_true (by omega)
                have hp0 : (0 : Int) ≤ p := by omega
                have hp1 : (p : Int) < n := by omega
                have hp2 : (p : Int) < (n : Int) + 1 := by omega
                have hpn : p < n := by omega
                obtain ⟨ap, Hap⟩ : ∃ y, Hid (y = A p) := ⟨_, Lib.hid rfl⟩
                obtain ⟨bp, Hbp⟩ : ∃ y, Hid (y = B p) := ⟨_, Lib.hid rfl⟩
                obtain ⟨jp, Hjp⟩ := bool_of (Joins l x p)
                have hap : ap ≤ 1000000 := by rw [Hap.out]; exact HAle.out p hpn
                have ga1 : ∀ Z : Grown wr, Z.w.cell? ⟨ga, q, none⟩ = some (.int .i64 (aq : Nat)) := fun Z => by rw [Haq.out]; exact (HPa.out.below (below_step HP.out Z.below)).cell hqn
                have ga2 : ∀ Z : Grown wr, Z.w.cell? ⟨ga, p, none⟩ = some (.int .i64 (ap : Nat)) := fun Z => by rw [Hap.out]; exact (HPa.out.below (below_step HP.out Z.below)).cell hpn
                have gb1 : ∀ Z : Grown wr, Z.w.cell? ⟨gb, q, none⟩ = some (.int .i64 (bq : Nat)) := fun Z => by rw [Hbq.out]; exact (HPb.out.below (below_step HP.out Z.below)).cell (by omega)
                have gb2 : ∀ Z : Grown wr, Z.w.cell? ⟨gb, p, none⟩ = some (.int .i64 (bp : Nat)) := fun Z => by rw [Hbp.out]; exact (HPb.out.below (below_step HP.out Z.below)).cell (by omega)
                have gl1 : ∀ Z : Grown wr, (Instr.lookup 44 (.map (some mb)) (.int .i64 aq) false).run Try.prog Z.w = .ok (.bool jq) Z.w := fun Z => (HFe.out.below (below_step HP.out Z.below)).look haq (by rw [Haq.out]; exact Hjq.out.trans (HJn.out q hqn).symm)
                have gl2 : ∀ Z : Grown wr, (Instr.lookup 44 (.map (some mb)) (.int .i64 ap) false).run Try.prog Z.w = .ok (.bool jp) Z.w := fun Z => (HFe.out.below (below_step HP.out Z.below)).look hap (by rw [Hap.out]; exact Hjp.out.trans (HJn.out p hpn).symm)
                have HE : Hid (bq = bp ↔ (aq = ap ∨ (jq = true ∧ jp = true))) := Lib.hid (by
                  rw [Hbq.out, Hbp.out, Haq.out, Hap.out, Hjq.out, Hjp.out]
                  exact HOld.out q p hqn hpn)
                by_cases haa : aq = ap
                · have hbb : bq = bp := HE.out.2 (Or.inl haa)
                  have e1 : ((aq : Int) == ap) = true := by simp; omega
                  have e2 : ((bq : Int) == bp) = true := by simp; omega
                  clear haa hbb
                  go_wp2_with fail
                  refine wp_region_grown (by kernel_rfl) (by kernel_rfl) ?_
                  repeat (go_big_quiet_step (fail))
                  refine wpQuiet_nil ?_
                  rintro _ ⟨Z, rfl⟩
                  have HBZ := Lib.hid (below_step HP.out Z.below)
                  go_wp2_with fail
                  go_round
                  case rel => exact ⟨p + 1, by omega, by go_num, HBZ⟩
                  case measure => simp [intOf]; omega
                · have e1 : ((aq : Int) == ap) = false := by simp; omega
                  have HE2 : Hid (bq = bp ↔ (jq = true ∧ jp = true)) := Lib.hid (HE.out.trans ⟨fun h => h.elim (fun h => absurd h haa) id, Or.inr⟩)
                  clear haa
                  cases jq with
                  | false =>
                    have e2 : ((bq : Int) == bp) = false := by
                      have : ¬ bq = bp := fun h => by have := (HE2.out.1 h).1; cases this
                      simp; omega
                    go_wp2_with fail
                    refine wp_region_grown (by kernel_rfl) (by kernel_rfl) ?_
                    repeat (go_big_quiet_step (fail))
                    refine wpQuiet_nil ?_
                    rintro _ ⟨Z, rfl⟩
                    have HBZ := Lib.hid (below_step HP.out Z.below)
                    go_wp2_with fail
                    go_round
                    case rel => exact ⟨p + 1, by omega, by go_num, HBZ⟩
                    case measure => simp [intOf]; omega
                  | true =>
                    cases jp with
                    | false =>
                      have e2 : ((bq : Int) == bp) = false := by
                        have : ¬ bq = bp := fun h => by have := (HE2.out.1 h).2; cases this
                        simp; omega
                      go_wp2_with fail
                      refine wp_region_grown (by kernel_rfl) (by kernel_rfl) ?_
                      repeat (go_big_quiet_step (fail))
                      refine wpQuiet_nil ?_
                      rintro _ ⟨Z, rfl⟩
                      have HBZ := Lib.hid (below_step HP.out Z.below)
                      go_wp2_with fail
                      go_round
                      case rel => exact ⟨p + 1, by omega, by go_num, HBZ⟩
                      case measure => simp [intOf]; omega
                    | true =>
                      have e2 : ((bq : Int) == bp) = true := by
                        have : bq = bp := HE2.out.2 ⟨rfl, rfl⟩
                        simp; omega
                      go_wp2_with fail
                      refine wp_region_grown (by kernel_rfl) (by kernel_rfl) ?_
                      repeat (go_big_quiet_step (fail))
                      refine wpQuiet_nil ?_
                      rintro _ ⟨Z, rfl⟩
                      have HBZ := Lib.hid (below_step HP.out Z.below)
                      go_wp2_with fail
                      go_round
                      case rel => exact ⟨p + 1, by omega, by go_num, HBZ⟩
                      case measure => simp [intOf]; omega
              · obtain rfl : p = q := by omega
                have hd3 : decide ((p : Int) < p) = false := decide_eq_false (by omega)
                go_wp2_with fail
                go_round
                case rel => exact ⟨p + 1, by omega, by go_num, HP⟩
                case measure => simp [intOf]; omega
          | false =>
            have e1 : ((bq : Int) == bn) = false := by
              have : ¬ bq = bn := fun h => by have := HE.out.1 h; cases this
              simp; omega
            go_wp2_with fail
            refine wp_region_grown (by kernel_rfl) (by kernel_rfl) ?_
            repeat (go_big_quiet_step (fail))
            refine wpQuiet_nil ?_
            rintro _ ⟨Z, rfl⟩
            have HBZ := Lib.hid (below_step HQ.out Z.below)
            go_wp2_with fail
            obtain ⟨wq, Hwq⟩ : ∃ y, Hid (y = Z.w) := ⟨_, Lib.hid rfl⟩
            rw [← Hwq.out] at HBZ ⊢
            clear ga1 gb1 gb2 gl HE e1 Hjq
            obtain ⟨jq, Hjq⟩ := bool_of (Joins l x q)
            go_loopw [18] (fun i ws => ∃ p : Nat, p ≤ q ∧ i = .int .i64 p ∧ Hid (Below we.heap.size we ws)) (fun i _ => q - (intOf i).toNat)
            case atStart => exact ⟨0, Nat.zero_le _, by go_num, HBZ⟩
            case round =>
              obtain ⟨p, hp, rfl, HP⟩ := hrel
              by_cases hpq : p < q
              · have hd3 : decide ((p : Int) < q) = true := decide_eq_true (by omega)
                have hp0 : (0 : Int) ≤ p := by omega
                have hp1 : (p : Int) < n := by omega
                have hp2 : (p : Int) < (n : Int) + 1 := by omega
                have hpn : p < n := by omega
                obtain ⟨ap, Hap⟩ : ∃ y, Hid (y = A p) := ⟨_, Lib.hid rfl⟩
                obtain ⟨bp, Hbp⟩ : ∃ y, Hid (y = B p) := ⟨_, Lib.hid rfl⟩
                obtain ⟨jp, Hjp⟩ := bool_of (Joins l x p)
                have hap : ap ≤ 1000000 := by rw [Hap.out]; exact HAle.out p hpn
                have ga1 : ∀ Z : Grown wr, Z.w.cell? ⟨ga, q, none⟩ = some (.int .i64 (aq : Nat)) := fun Z => by rw [Haq.out]; exact (HPa.out.below (below_step HP.out Z.below)).cell hqn
                have ga2 : ∀ Z : Grown wr, Z.w.cell? ⟨ga, p, none⟩ = some (.int .i64 (ap : Nat)) := fun Z => by rw [Hap.out]; exact (HPa.out.below (below_step HP.out Z.below)).cell hpn
                have gb1 : ∀ Z : Grown wr, Z.w.cell? ⟨gb, q, none⟩ = some (.int .i64 (bq : Nat)) := fun Z => by rw [Hbq.out]; exact (HPb.out.below (below_step HP.out Z.below)).cell (by omega)
                have gb2 : ∀ Z : Grown wr, Z.w.cell? ⟨gb, p, none⟩ = some (.int .i64 (bp : Nat)) := fun Z => by rw [Hbp.out]; exact (HPb.out.below (below_step HP.out Z.below)).cell (by omega)
                have gl1 : ∀ Z : Grown wr, (Instr.lookup 44 (.map (some mb)) (.int .i64 aq) false).run Try.prog Z.w = .ok (.bool jq) Z.w := fun Z => (HFe.out.below (below_step HP.out Z.below)).look haq (by rw [Haq.out]; exact Hjq.out.trans (HJn.out q hqn).symm)
                have gl2 : ∀ Z : Grown wr, (Instr.lookup 44 (.map (some mb)) (.int .i64 ap) false).run Try.prog Z.w = .ok (.bool jp) Z.w := fun Z => (HFe.out.below (below_step HP.out Z.below)).look hap (by rw [Hap.out]; exact Hjp.out.trans (HJn.out p hpn).symm)
                have HE : Hid (bq = bp ↔ (aq = ap ∨ (jq = true ∧ jp = true))) := Lib.hid (by
                  rw [Hbq.out, Hbp.out, Haq.out, Hap.out, Hjq.out, Hjp.out]
                  exact HOld.out q p hqn hpn)
                by_cases haa : aq = ap
                · have hbb : bq = bp := HE.out.2 (Or.inl haa)
                  have e1 : ((aq : Int) == ap) = true := by simp; omega
                  have e2 : ((bq : Int) == bp) = true := by simp; omega
                  clear haa hbb
                  go_wp2_with fail
                  refine wp_region_grown (by kernel_rfl) (by kernel_rfl) ?_
                  repeat (go_big_quiet_step (fail))
                  refine wpQuiet_nil ?_
                  rintro _ ⟨Z, rfl⟩
                  have HBZ := Lib.hid (below_step HP.out Z.below)
                  go_wp2_with fail
                  go_round
                  case rel => exact ⟨p + 1, by omega, by go_num, HBZ⟩
                  case measure => simp [intOf]; omega
                · have e1 : ((aq : Int) == ap) = false := by simp; omega
                  have HE2 : Hid (bq = bp ↔ (jq = true ∧ jp = true)) := Lib.hid (HE.out.trans ⟨fun h => h.elim (fun h => absurd h haa) id, Or.inr⟩)
                  clear haa
                  cases jq with
                  | false =>
                    have e2 : ((bq : Int) == bp) = false := by
                      have : ¬ bq = bp := fun h => by have := (HE2.out.1 h).1; cases this
                      simp; omega
                    go_wp2_with fail
                    refine wp_region_grown (by kernel_rfl) (by kernel_rfl) ?_
                    repeat (go_big_quiet_step (fail))
                    refine wpQuiet_nil ?_
                    rintro _ ⟨Z, rfl⟩
                    have HBZ := Lib.hid (below_step HP.out Z.below)
                    go_wp2_with fail
                    go_round
                    case rel => exact ⟨p + 1, by omega, by go_num, HBZ⟩
                    case measure => simp [intOf]; omega
                  | true =>
                    cases jp with
                    | false =>
                      have e2 : ((bq : Int) == bp) = false := by
                        have : ¬ bq = bp := fun h => by have := (HE2.out.1 h).2; cases this
                        simp; omega
                      go_wp2_with fail
                      refine wp_region_grown (by kernel_rfl) (by kernel_rfl) ?_
                      repeat (go_big_quiet_step (fail))
                      refine wpQuiet_nil ?_
                      rintro _ ⟨Z, rfl⟩
                      have HBZ := Lib.hid (below_step HP.out Z.below)
                      go_wp2_with fail
                      go_round
                      case rel => exact ⟨p + 1, by omega, by go_num, HBZ⟩
                      case measure => simp [intOf]; omega
                    | true =>
                      have e2 : ((bq : Int) == bp) = true := by
                        have : bq = bp := HE2.out.2 ⟨rfl, rfl⟩
                        simp; omega
                      go_wp2_with fail
                      refine wp_region_grown (by kernel_rfl) (by kernel_rfl) ?_
                      repeat (go_big_quiet_step (fail))
                      refine wpQuiet_nil ?_
                      rintro _ ⟨Z, rfl⟩
                      have HBZ := Lib.hid (below_step HP.out Z.below)
                      go_wp2_with fail
                      go_round
                      case rel => exact ⟨p + 1, by omega, by go_num, HBZ⟩
                      case measure => simp [intOf]; omega
              · obtain rfl : p = q := by omega
                have hd3 : decide ((p : Int) < p) = false := decide_eq_false (by omega)
                go_wp2_with fail
                go_round
                case rel => exact ⟨p + 1, by omega, by go_num, HP⟩
                case measure => simp [intOf]; omega
        · obtain rfl : q = n := by omega
          have hd2 : decide ((q : Int) < q) = false := decide_eq_false (by omega)
          have HBz := Lib.hid (below_step HBe.out HQ.out)
          go_wp2_with fail
          go_ret
          exact ⟨rfl, HBz.out⟩
end Go.Proofs.Ytolnpimnoajcaaa
