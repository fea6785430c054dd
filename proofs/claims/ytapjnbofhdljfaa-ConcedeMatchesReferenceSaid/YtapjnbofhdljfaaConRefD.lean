/- The reference's Normal, Permitted. -/
import Derived.Test.YtapjnbofhdljfaaConRefC
namespace Go.Proofs.Ytapjnbofhdljfaa
open Go.RowKit
open Cat

set_option maxRecDepth 100000 in
set_option maxHeartbeats 4000000 in
theorem refNormal_any (co : Option Addr) (c : List Knd) (cc : Nat) (kind slot other : ByteArray) (hl : c.length ≤ 9223372036854775807) (W : World) (hi : IsL 3 ElKnd W co c) :
    Calls Try.prog 28 #[.agg #[.slice co c.length cc], .string kind, .string slot, .string other] W fun e w' => e = .returned (.bool (Con.normal c kind slot other)) ∧ Below W.heap.size W w' := by
  obtain ⟨n, Hn⟩ : ∃ n, Hid (n = c.length) := ⟨_, Lib.hid rfl⟩
  obtain ⟨N, HN⟩ : ∃ N, Hid (N = W.heap.size) := ⟨_, Lib.hid rfl⟩
  obtain ⟨V, HV⟩ : ∃ w, Hid (w = W.alloc (.cells #[.slice co n cc] 24)) := ⟨_, Lib.hid rfl⟩
  have HB : Hid (Below W.heap.size W V) := Lib.hid (by rw [HV.out]; exact (Below.refl _ _).alloc (Nat.le_refl _) _)
  have HT := Lib.hid (refGet_any co c cc kind slot hl V (hi.below stKnd HB.out))
  unfold Con.normal
  obtain ⟨T, HTe⟩ : ∃ T, Hid (T = Con.taken c kind slot) := ⟨_, Lib.hid rfl⟩
  rw [← HTe.out] at HT ⊢
  obtain ⟨ks, z⟩ := T
  rw [← Hn.out] at HT hl ⊢
  clear hi
  dsimp only
  obtain ⟨kl, Hkl⟩ : ∃ u, Hid (u = ks.length) := ⟨_, Lib.hid rfl⟩
  rw [← Hkl.out]
  obtain ⟨f, Hf⟩ : ∃ u, Hid (u = Con.fit z kl) := ⟨_, Lib.hid rfl⟩
  rw [← Hf.out]
  obtain ⟨u, Hu⟩ : ∃ u, Hid (u = Con.has (ks.take f) other) := ⟨_, Lib.hid rfl⟩
  rw [← Hu.out]
  go_enter Try.func28, Try.ntmps28
  go_wp2_with fail
  rw [← HN.out, ← HV.out]
  refine HT.out.mono ?_
  rintro e w1 ⟨nm, ko, kc, ok, rfl, hk, hk1, hk2, hok, hb⟩
  dsimp only at hk hk1
  have HK := Lib.hid hk
  have HB1 := Lib.hid (below_step HB.out hb)
  have hfl : f ≤ kl := by rw [Hf.out]; unfold Con.fit; omega
  have hfe : (max 0 (min z (kl : Int))).toNat = f := by rw [Hf.out]; rfl
  have hfi : max 0 (min z (kl : Int)) = (f : Int) := by rw [← hfe]; omega
  have Hfi := Lib.hid hfi
  rw [← Hkl.out] at hk1
  have hkc : kl ≤ kc := hk1
  have hlt : (ks.take f).length = f := by rw [List.length_take, ← Hkl.out]; omega
  obtain ⟨U, HU⟩ : ∃ w, Hid (w = w1.alloc (.cells #[.string nm, .slice ko kl kc, .int .i64 z] 74)) := ⟨_, Lib.hid rfl⟩
  have HBU : Hid (Below w1.heap.size w1 U) := Lib.hid (by rw [HU.out]; exact (Below.refl _ _).alloc (Nat.le_refl _) _)
  have HC : Hid (Calls Try.prog 41 #[.slice ko f kc, .string other] U fun e w' => e = .returned (.bool u) ∧ U = w') := Lib.hid (by
    have := refIn_any ko (ks.take f) kc other (by omega) U ((HK.out.below HBU.out).take f)
    rw [hlt, ← Hu.out] at this
    exact this)
  have hb0 : (0 : Int) ≤ f := by omega
  have hb1 : (f : Int) ≤ kc := by omega
  rw [← Hkl.out]
  cases ok with
  | false =>
    have HA : Hid (u = false) := Lib.hid (by
      have := hok rfl
      have hks : ks = [] := congrArg Prod.fst this
      rw [Hu.out, hks]; simp [Con.has])
    clear hk hk1 hok hb hfe hfi
    go_wp2_with fail
    go_ret
    obtain rfl := HA.out
    exact ⟨rfl, below_step HB1.out (by rw [← HU.out]; exact HBU.out)⟩
  | true =>
    clear hk hk1 hok hb hfe
    go_wp2_with fail
    rw [← HU.out]
    refine HC.out.mono ?_
    rintro e w2 ⟨rfl, hw⟩
    subst hw
    go_wp2_with fail
    go_ret
    exact ⟨rfl, below_step HB1.out HBU.out⟩

set_option maxRecDepth 100000 in
set_option maxHeartbeats 8000000 in
theorem refPermitted_any (co : Option Addr) (c : List Knd) (cc : Nat) (bo : Option Addr) (subs : List Sb) (bc : Nat) (so : Option Addr) (s : List Prt) (sc : Nat) (part : ByteArray) (day : Int) (hlc : c.length ≤ 9223372036854775807) (hlb : subs.length ≤ 9223372036854775807) (hls : s.length ≤ 9223372036854775807)
    (W : World) (hc : IsL 3 ElKnd W co c) (hb : IsL 5 ElSub W bo subs) (hi : IsL 14 ElPrt W so s) :
    Calls Try.prog 15 #[.agg #[.slice co c.length cc], .slice bo subs.length bc, .agg #[.slice so s.length sc], .string part, .int .i64 day] W fun e w' => e = .returned (.bool (Con.permitted c subs s part day)) ∧ Below W.heap.size W w' := by
  have HSb := Lib.hid hb
  have HF1 := Lib.hid (fun (n : ByteArray) (w : World) (hw : Below W.heap.size W w) => refFind_any so s sc n hls w (hi.below stPrt hw))
  have HNm := Lib.hid (fun (k sl o : ByteArray) (w : World) (hw : Below W.heap.size W w) => refNormal_any co c cc k sl o hlc w (hc.below stKnd hw))
  have HHo := Lib.hid (fun (h sl k : ByteArray) (w : World) (hw : Below W.heap.size W w) => refHolds_any so s sc h sl k hls w (hi.below stPrt hw))
  obtain ⟨cn, Hcn⟩ : ∃ n, Hid (n = c.length) := ⟨_, Lib.hid rfl⟩
  obtain ⟨bn, Hbn⟩ : ∃ n, Hid (n = subs.length) := ⟨_, Lib.hid rfl⟩
  obtain ⟨sn, Hsn⟩ : ∃ n, Hid (n = s.length) := ⟨_, Lib.hid rfl⟩
  rw [← Hsn.out] at HF1 HHo ⊢
  rw [← Hcn.out] at HNm ⊢
  rw [← Hbn.out] at hlb ⊢
  obtain ⟨u, Hu⟩ : ∃ u, Hid (u = Con.permitted c subs s part day) := ⟨_, Lib.hid rfl⟩
  rw [← Hu.out]
  clear hc hb hi
  obtain ⟨N, HN⟩ : ∃ N, Hid (N = W.heap.size) := ⟨_, Lib.hid rfl⟩
  obtain ⟨V, HV⟩ : ∃ w, Hid (w = (W.alloc (.cells #[.slice co cn cc] 24)).alloc (.cells #[.slice so sn sc] 28)) := ⟨_, Lib.hid rfl⟩
  have HB : Hid (Below W.heap.size W V) := Lib.hid (by rw [HV.out]; exact below_alloc ((Below.refl _ _).alloc (Nat.le_refl _) _) _)
  have v0 : V.cell? ⟨N, 0, none⟩ = some (.slice co cn cc) := by rw [HV.out, HN.out]; go_simp
  have v1 : V.cell? ⟨N + 1, 0, none⟩ = some (.slice so sn sc) := by rw [HV.out, HN.out]; go_simp
  have lN := lt_of_cell v0
  have lN1 := lt_of_cell v1
  go_enter Try.func15, Try.ntmps15
  go_wp2_with fail
  rw [← HN.out, ← HV.out]
  have HSz := Lib.hid part_size
  have Hv0 := Lib.hid v0
  have Hv1 := Lib.hid v1
  clear v0 v1
  refine (HF1.out part V HB.out).mono ?_
  rintro e w1 ⟨qo, qc, rfl, hb⟩
  have HB1 := Lib.hid hb
  clear hb
  obtain ⟨p, Hp⟩ : ∃ p, Hid (p = Con.got s part) := ⟨_, Lib.hid rfl⟩
  obtain ⟨f1, Hf1⟩ : ∃ p, Hid (p = (Con.find s part).isSome) := ⟨_, Lib.hid rfl⟩
  rw [← Hp.out, ← Hf1.out]
  obtain ⟨pn, Hpn⟩ : ∃ n, Hid (n = p.props.length) := ⟨_, Lib.hid rfl⟩
  rw [← Hpn.out]
  have HOne := Lib.hid (ptC_one p qo pn qc)
  obtain ⟨N1, HN1⟩ : ∃ g, Hid (g = w1.heap.size) := ⟨_, Lib.hid rfl⟩
  obtain ⟨U1, HU1⟩ : ∃ w, Hid (w = w1.alloc (.cells (ptC p (.slice qo pn qc)).toArray 45)) := ⟨_, Lib.hid rfl⟩
  have HW1 : Hid (Whole U1 N1 45 (ptC p (.slice qo pn qc)).toArray) := Lib.hid (by rw [HU1.out]; exact Whole.newAt _ _ HN1.out)
  have HBU1 : Hid (Below V.heap.size V U1) := Lib.hid (by rw [HU1.out]; exact below_alloc HB1.out _)
  go_wp2_with (first
    | (with_reducible show wpList _ _ _ (Oper.mk _ (Op.store 45 _ _) _ _ _ _ :: _) _ _; refine Hid.out ?_))
  refine Lib.hid ?_
  refine wpList_store_new rfl _ _ _ rfl _ (ptC p (.slice qo pn qc)).toArray rfl rfl (HSz.out.trans rfl) rfl HOne.out ?_
  rw [← HU1.out, ← HN1.out]
  cases hfd : Con.find s part with
  | none =>
    obtain rfl : f1 = false := by rw [Hf1.out, hfd]; rfl
    obtain rfl : u = false := by rw [Hu.out]; unfold Con.permitted; rw [hfd]
    clear hfd
    go_wp2_with fail
    go_ret
    exact ⟨rfl, below_step HB.out HBU1.out⟩
  | some p' =>
  obtain rfl : p = p' := by rw [Hp.out]; unfold Con.got; rw [hfd]; rfl
  obtain rfl : f1 = true := by rw [Hf1.out, hfd]; rfl
  have Hfd := Lib.hid hfd
  clear hfd
  obtain ⟨pin, Hpin⟩ : ∃ u, Hid (u = p.into) := ⟨_, Lib.hid rfl⟩
  obtain ⟨psl, Hpsl⟩ : ∃ u, Hid (u = p.slot) := ⟨_, Lib.hid rfl⟩
  obtain ⟨pki, Hpki⟩ : ∃ u, Hid (u = p.kind) := ⟨_, Lib.hid rfl⟩
  have d2 : U1.cell? ⟨N1, 2, none⟩ = some (.string pin) := by rw [Hpin.out]; exact HW1.out.cell 2
  obtain ⟨b5, e5⟩ : ∃ b, pin.toList.isEmpty = b := ⟨_, rfl⟩
  have e5' : decide (p.into = Con.empty) = b5 := by rw [← Con.eq_empty, ← Hpin.out]; exact e5
  cases b5 with
  | true =>
    obtain rfl : u = true := by rw [Hu.out]; unfold Con.permitted; rw [Hfd.out]; dsimp only; rw [if_pos (of_decide_eq_true e5')]
    clear e5'
    go_wp2_with fail
    go_ret
    exact ⟨rfl, below_step HB.out HBU1.out⟩
  | false =>
  have Hne := Lib.hid (of_decide_eq_false e5')
  clear e5'
  have d1 := (cellB HBU1.out lN1).trans Hv1.out
  go_wp2_with fail
  clear e5
  refine (HF1.out pin U1 (below_step HB.out HBU1.out)).mono ?_
  rintro e w2 ⟨ro, rc, rfl, hb⟩
  have HB2 := Lib.hid (below_step HBU1.out hb)
  have HW12 := Lib.hid (whole_belowM HW1.out hb)
  clear hb d1 d2
  obtain ⟨h, Hh⟩ : ∃ p, Hid (p = Con.got s pin) := ⟨_, Lib.hid rfl⟩
  obtain ⟨f2, Hf2⟩ : ∃ p, Hid (p = (Con.find s pin).isSome) := ⟨_, Lib.hid rfl⟩
  rw [← Hh.out, ← Hf2.out]
  obtain ⟨hn, Hhn⟩ : ∃ n, Hid (n = h.props.length) := ⟨_, Lib.hid rfl⟩
  rw [← Hhn.out]
  have HOne2 := Lib.hid (ptC_one h ro hn rc)
  obtain ⟨N2, HN2⟩ : ∃ g, Hid (g = w2.heap.size) := ⟨_, Lib.hid rfl⟩
  obtain ⟨U2, HU2⟩ : ∃ w, Hid (w = w2.alloc (.cells (ptC h (.slice ro hn rc)).toArray 45)) := ⟨_, Lib.hid rfl⟩
  have HW2 : Hid (Whole U2 N2 45 (ptC h (.slice ro hn rc)).toArray) := Lib.hid (by rw [HU2.out]; exact Whole.newAt _ _ HN2.out)
  have HW22 : Hid (Whole U2 N1 45 (ptC p (.slice qo pn qc)).toArray) := Lib.hid (by rw [HU2.out]; exact whole_belowM HW12.out ((Below.refl _ _).alloc (Nat.le_refl _) _))
  have HBU2 : Hid (Below V.heap.size V U2) := Lib.hid (by rw [HU2.out]; exact below_alloc HB2.out _)
  go_wp2_with (first
    | (with_reducible show wpList _ _ _ (Oper.mk _ (Op.store 45 _ _) _ _ _ _ :: _) _ _; refine Hid.out ?_))
  refine Lib.hid ?_
  refine wpList_store_new rfl _ _ _ rfl _ (ptC h (.slice ro hn rc)).toArray rfl rfl (HSz.out.trans rfl) rfl HOne2.out ?_
  rw [← HU2.out, ← HN2.out]
  cases hfd : Con.find s pin with
  | none =>
    obtain rfl : f2 = false := by rw [Hf2.out, hfd]; rfl
    obtain rfl : u = false := by rw [Hu.out]; unfold Con.permitted; rw [Hfd.out]; dsimp only; rw [if_neg Hne.out, ← Hpin.out, hfd]
    clear hfd
    go_wp2_with fail
    go_ret
    exact ⟨rfl, below_step HB.out HBU2.out⟩
  | some h' =>
  obtain rfl : h = h' := by rw [Hh.out]; unfold Con.got; rw [hfd]; rfl
  obtain rfl : f2 = true := by rw [Hf2.out, hfd]; rfl
  have Hfd2 := Lib.hid hfd
  have Hhnm : Hid (h.name = pin) := Lib.hid (by have := List.find?_some hfd; simpa using this)
  clear hfd
  obtain ⟨hki, Hhki⟩ : ∃ u, Hid (u = h.kind) := ⟨_, Lib.hid rfl⟩
  have HK : Hid (∀ w, Below U2.heap.size U2 w → w.cell? ⟨N2, 1, none⟩ = some (.string hki) ∧ w.cell? ⟨N1, 3, none⟩ = some (.string psl) ∧ w.cell? ⟨N1, 1, none⟩ = some (.string pki) ∧ w.cell? ⟨N1, 2, none⟩ = some (.string pin) ∧ w.cell? ⟨N, 0, none⟩ = some (.slice co cn cc) ∧ w.cell? ⟨N + 1, 0, none⟩ = some (.slice so sn sc)) := Lib.hid (fun w hw => by
    have a1 := whole_belowM HW2.out hw
    have a2 := whole_belowM HW22.out hw
    have a3 := below_step HBU2.out hw
    exact ⟨by rw [Hhki.out]; exact a1.cell 1, by rw [Hpsl.out]; exact a2.cell 3, by rw [Hpki.out]; exact a2.cell 1, by rw [Hpin.out]; exact a2.cell 2, (cellB a3 lN).trans Hv0.out, (cellB a3 lN1).trans Hv1.out⟩)
  obtain ⟨q1, q2, q3, q4, q5, q6⟩ := HK.out U2 (Below.refl _ _)
  have HNr := Lib.hid (HNm.out hki psl pki U2 (below_step HB.out HBU2.out))
  obtain ⟨nb, Hnb⟩ : ∃ b, Hid (b = Con.normal c hki psl pki) := ⟨_, Lib.hid rfl⟩
  rw [← Hnb.out] at HNr
  have HUv : Hid (u = (nb || subs.any (Con.permits s h p day))) := Lib.hid (by
    rw [Hu.out]; unfold Con.permitted; rw [Hfd.out]; dsimp only; rw [if_neg Hne.out, ← Hpin.out, Hfd2.out]; dsimp only; rw [Hnb.out, Hhki.out, Hpsl.out, Hpki.out])
  go_wp2_with fail
  refine HNr.out.mono ?_
  rintro e w4 ⟨rfl, hb⟩
  have HB4 := Lib.hid hb
  clear hb q1 q2 q3 q4 q5 q6
  cases nb with
  | true =>
    obtain rfl : u = true := by rw [HUv.out]; rfl
    go_wp2_with fail
    go_ret
    exact ⟨rfl, below_step HB.out (below_step HBU2.out HB4.out)⟩
  | false =>
  have HUs : Hid (u = subs.any (Con.permits s h p day)) := Lib.hid (by rw [HUv.out]; rfl)
  go_wp2_with fail
  go_loopw [15] (fun i wr => ∃ k : Nat, k ≤ bn ∧ i = .int .i64 k ∧ Hid (Below U2.heap.size U2 wr ∧ (subs.take k).any (Con.permits s h p day) = false)) (fun i _ => bn - (intOf i).toNat)
  case atStart => exact ⟨0, Nat.zero_le _, by go_num, Lib.hid ⟨HB4.out, rfl⟩⟩
  case round =>
    obtain ⟨k, hk, rfl, HR⟩ := hrel
    have HBr := Lib.hid (below_step HB.out (below_step HBU2.out HR.out.1))
    by_cases hkn : k < bn
    · have hd : decide ((k : Int) < bn) = true := decide_eq_true (by omega)
      have hb0 : (0 : Int) ≤ k := by omega
      have hb1 : (k : Int) < bn := by omega
      have hkl : k < subs.length := by rw [← Hbn.out]; exact hkn
      obtain ⟨bk, off, cs, rfl, hbk, hrg, hel⟩ := HSb.out.at hkl
      obtain ⟨x, Hx⟩ : ∃ m, Hid (m = subs[k]) := ⟨_, Lib.hid rfl⟩
      rw [← Hx.out] at hel
      unfold ElSub at hel
      subst hel
      obtain ⟨xk, xs, xo, xt, xto⟩ := x
      have hrg := rangeB hrg hbk HBr.out
      have c0 := hrg 0 _ rfl
      have c1 := hrg 1 _ rfl
      have c2 := hrg 2 _ rfl
      have c3 := hrg 3 _ rfl
      have c4 := hrg 4 _ rfl
      rw [Nat.add_zero] at c0
      dsimp only at c0 c1 c2 c3 c4
      obtain ⟨Y, HY⟩ : ∃ w, Hid (w = wr.alloc (.cells #[.string xk, .string xs, .string xo, .string xt, .int .i64 xto] 51)) := ⟨_, Lib.hid rfl⟩
      obtain ⟨gy, Hgy⟩ : ∃ g, Hid (g = wr.heap.size) := ⟨_, Lib.hid rfl⟩
      have HWY : Hid (Whole Y gy 51 #[.string xk, .string xs, .string xo, .string xt, .int .i64 xto]) := Lib.hid (by rw [HY.out]; exact Whole.newAt _ _ Hgy.out)
      have HBY : Hid (Below U2.heap.size U2 Y) := Lib.hid (by rw [HY.out]; exact below_alloc HR.out.1 _)
      have y0 := HWY.out.cell 0
      have y1 := HWY.out.cell 1
      have y2 := HWY.out.cell 2
      have y3 := HWY.out.cell 3
      have y4 := HWY.out.cell 4
      obtain ⟨q1, q2, q3, q4, q5, q6⟩ := HK.out Y HBY.out
      obtain ⟨p1, e1⟩ : ∃ b, (xk.toList == hki.toList) = b := ⟨_, rfl⟩
      obtain ⟨p2, e2⟩ : ∃ b, (xs.toList == psl.toList) = b := ⟨_, rfl⟩
      obtain ⟨p3, e3⟩ : ∃ b, (xo.toList == pki.toList) = b := ⟨_, rfl⟩
      obtain ⟨p4, e4⟩ : ∃ b, decide (day ≤ xto) = b := ⟨_, rfl⟩
      obtain ⟨p5, e5⟩ : ∃ b, xt.toList.isEmpty = b := ⟨_, rfl⟩
      obtain ⟨p6, Hp6⟩ : ∃ b, Hid (b = s.any (Con.twin pin ⟨xo, xo, xo, xt, 0⟩)) := ⟨_, Lib.hid rfl⟩
      have HE : Hid (Con.permits s h p day subs[k] = (p1 && (p2 && (p3 && (p4 && (p5 || p6)))))) := Lib.hid (by
        rw [← Hx.out]
        unfold Con.permits
        dsimp only
        rw [← Con.eq_list, ← Con.eq_list, ← Con.eq_list, ← Con.eq_empty, ← Hhki.out, ← Hpsl.out, ← Hpki.out, e1, e2, e3, e4, e5, Hhnm.out, Hp6.out]
        rfl)
      clear hrg
      have HNo : Hid ((p1 && (p2 && (p3 && (p4 && (p5 || p6))))) = false → (subs.take (k + 1)).any (Con.permits s h p day) = false) := Lib.hid (fun hq => Con.some_next hkl HR.out.2 (by rw [HE.out]; exact hq))
      have HYe : Hid ((p1 && (p2 && (p3 && (p4 && (p5 || p6))))) = true → u = true) := Lib.hid (fun hq => by rw [HUs.out]; exact Con.some_here hkl (by rw [HE.out]; exact hq))
      go_wp2_with (first
        | (with_reducible show wpList _ _ _ (Oper.mk _ (Op.fieldAddr 51 _ 0) _ _ _ _ :: _) _ _; refine Hid.out ?_))
      refine Lib.hid ?_
      rw [← Hgy.out, ← HY.out]
      clear c0 c1 c2 c3 c4
      have HWYe := Lib.hid (below_step HB.out (below_step HBU2.out HBY.out))
      cases p1 with
      | false =>
        go_wp2_with fail
        go_round
        case rel => exact ⟨k + 1, by omega, by go_num, Lib.hid ⟨HBY.out, HNo.out rfl⟩⟩
        case measure => simp [intOf]; omega
      | true =>
      cases p2 with
      | false =>
        go_wp2_with fail
        go_round
        case rel => exact ⟨k + 1, by omega, by go_num, Lib.hid ⟨HBY.out, HNo.out rfl⟩⟩
        case measure => simp [intOf]; omega
      | true =>
      cases p3 with
      | false =>
        go_wp2_with fail
        go_round
        case rel => exact ⟨k + 1, by omega, by go_num, Lib.hid ⟨HBY.out, HNo.out rfl⟩⟩
        case measure => simp [intOf]; omega
      | true =>
      cases p4 with
      | false =>
        go_wp2_with fail
        go_round
        case rel => exact ⟨k + 1, by omega, by go_num, Lib.hid ⟨HBY.out, HNo.out rfl⟩⟩
        case measure => simp [intOf]; omega
      | true =>
      cases p5 with
      | true =>
        go_wp2_with fail
        go_ret
        obtain rfl : u = true := HYe.out rfl
        exact ⟨rfl, HWYe.out⟩
      | false =>
        have q7 := HHo.out pin xt xo Y HWYe.out
        rw [← Hp6.out] at q7
        go_wp2_with fail
        refine q7.mono ?_
        rintro e w7 ⟨rfl, hb7⟩
        have HB7 := Lib.hid hb7
        clear hb7 q7
        cases p6 with
        | true =>
          go_wp2_with fail
          go_ret
          obtain rfl : u = true := HYe.out rfl
          exact ⟨rfl, below_step HWYe.out HB7.out⟩
        | false =>
          go_wp2_with fail
          go_round
          case rel => exact ⟨k + 1, by omega, by go_num, Lib.hid ⟨below_step HBY.out HB7.out, HNo.out rfl⟩⟩
          case measure => simp [intOf]; omega
    · obtain rfl : k = bn := by omega
      have hd : decide ((k : Int) < k) = false := decide_eq_false (by omega)
      have HA : Hid (u = false) := Lib.hid (by rw [HUs.out]; exact Con.some_end (by have := HR.out.2; rwa [Hbn.out] at this))
      go_wp2_with fail
      go_ret
      obtain rfl := HA.out
      exact ⟨rfl, HBr.out⟩
end Go.Proofs.Ytapjnbofhdljfaa
