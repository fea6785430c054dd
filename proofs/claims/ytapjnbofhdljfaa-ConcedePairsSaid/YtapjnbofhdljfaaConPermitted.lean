/- Permitted. -/
import Derived.Test.YtapjnbofhdljfaaConPerm
namespace Go.Proofs.Ytapjnbofhdljfaa
open Go.RowKit
open Cat

/-- What is asked of a state: no part has too many properties. -/
def FewProps (s : List Prt) : Prop := s.length ≤ 1000000 ∧ ∀ p ∈ s, p.props.length ≤ 1000000
set_option maxRecDepth 100000 in
theorem build_fit (p h : Prt) (po ho : Option Addr) (pn pc hn hc : Nat) (so : Option Addr) (n sc : Nat) (w : World) :
    (Instr.build 62 #[(0, .agg (ptC p (.slice po pn pc)).toArray), (1, .agg (ptC h (.slice ho hn hc)).toArray), (2, .agg #[.slice so n sc])]).run Try.prog w = .ok (.agg (fitC p h (.slice po pn pc) (.slice ho hn hc) so n sc).toArray) w := by
  obtain ⟨s0, s1, s2, s3, z4, z5, b6, ps, l0, l1, l2, l3, l4, l5⟩ := p
  obtain ⟨t0, t1, t2, t3, y4, y5, c6, qs, k0, k1, k2, k3, k4, k5⟩ := h
  unfold fitC ptC
  kernel_rfl
theorem fitC_one (p h : Prt) (po ho : Option Addr) (pn pc hn hc : Nat) (so : Option Addr) (n sc : Nat) : (fitC p h (.slice po pn pc) (.slice ho hn hc) so n sc).toArray.all (·.oneCell') = true := by simp [fitC, ptC, Value.oneCell']
theorem got_mem {s : List Prt} {n : ByteArray} {p : Prt} (h : Con.find s n = some p) : p ∈ s := List.mem_of_find?_eq_some h
set_option maxRecDepth 100000 in
set_option maxHeartbeats 8000000 in
theorem permitted_any (co : Option Addr) (c : List Knd) (cc : Nat) (bo : Option Addr) (subs : List Sb) (bc : Nat) (so : Option Addr) (s : List Prt) (sc : Nat) (part : ByteArray) (day : Int) (hlc : c.length ≤ 9223372036854775807) (hlb : subs.length ≤ 9223372036854775807) (hs : FewProps s)
    (W : World) (hc : IsL 3 ElKnd W co c) (hb : IsL 5 ElSub W bo subs) (hi : IsL 14 ElPrt W so s) :
    Calls Try.prog 14 #[.agg #[.slice co c.length cc], .slice bo subs.length bc, .agg #[.slice so s.length sc], .string part, .int .i64 day] W fun e w' => e = .returned (.bool (Con.permitted c subs s part day)) ∧ Below W.heap.size W w' := by
  have HC := Lib.hid hc
  have HSb := Lib.hid hb
  have HI := Lib.hid hi
  have HF1 := Lib.hid (fun (n : ByteArray) (w : World) (hw : Below W.heap.size W w) => find_any so s sc n (by have := hs.1; omega) hs.2 w (hi.below stPrt hw))
  have HNm := Lib.hid (fun (k sl o : ByteArray) (w : World) (hw : Below W.heap.size W w) => normal_any co c cc k sl o hlc w (hc.below stKnd hw))
  have HSS := Lib.hid (fun (p h : Prt) (po ho : Option Addr) (pn pc hn hc' : Nat) (g1 g2 : Nat) (w : World) (hw : Below W.heap.size W w) => someS_any p h po ho pn pc hn hc' so s sc day g1 g2 (by have := hs.1; omega) bo subs bc hlb w (hi.below stPrt hw) (hb.below stSub hw))
  obtain ⟨cn, Hcn⟩ : ∃ n, Hid (n = c.length) := ⟨_, Lib.hid rfl⟩
  obtain ⟨bn, Hbn⟩ : ∃ n, Hid (n = subs.length) := ⟨_, Lib.hid rfl⟩
  obtain ⟨sn, Hsn⟩ : ∃ n, Hid (n = s.length) := ⟨_, Lib.hid rfl⟩
  rw [← Hsn.out] at HF1 HSS ⊢
  rw [← Hcn.out] at HNm ⊢
  rw [← Hbn.out] at HSS ⊢
  obtain ⟨u, Hu⟩ : ∃ u, Hid (u = Con.permitted c subs s part day) := ⟨_, Lib.hid rfl⟩
  rw [← Hu.out]
  clear hc hb hi
  obtain ⟨N, HN⟩ : ∃ N, Hid (N = W.heap.size) := ⟨_, Lib.hid rfl⟩
  obtain ⟨V, HV⟩ : ∃ w, Hid (w = ((W.alloc (.cells #[.slice co cn cc] 24)).alloc (.cells #[.slice so sn sc] 28)).alloc (.cells #[.int .i64 day] 3)) := ⟨_, Lib.hid rfl⟩
  have HB : Hid (Below W.heap.size W V) := Lib.hid (by rw [HV.out]; exact below_alloc (below_alloc ((Below.refl _ _).alloc (Nat.le_refl _) _) _) _)
  have v0 : V.cell? ⟨N, 0, none⟩ = some (.slice co cn cc) := by rw [HV.out, HN.out]; go_simp
  have v1 : V.cell? ⟨N + 1, 0, none⟩ = some (.slice so sn sc) := by rw [HV.out, HN.out]; go_simp
  have v2 : V.cell? ⟨N + 1 + 1, 0, none⟩ = some (.int .i64 day) := by rw [HV.out, HN.out]; go_simp
  have HVs : Hid (N + 1 + 1 < V.heap.size) := Lib.hid (lt_of_cell v2)
  go_enter Try.func14, Try.ntmps14
  go_wp2_with fail
  rw [← HN.out, ← HV.out]
  have HSz := Lib.hid part_size
  have HFz := Lib.hid fit_size
  have Hv0 := Lib.hid v0
  have Hv1 := Lib.hid v1
  have Hv2 := Lib.hid v2
  clear v0 v1 v2
  refine (HF1.out part V HB.out).mono ?_
  rintro e w1 ⟨qo, qc, rfl, _, hb⟩
  have HB1 := Lib.hid hb
  clear hb
  obtain ⟨p, Hp⟩ : ∃ p, Hid (p = Con.got s part) := ⟨_, Lib.hid rfl⟩
  obtain ⟨f1, Hf1⟩ : ∃ p, Hid (p = (Con.find s part).isSome) := ⟨_, Lib.hid rfl⟩
  rw [← Hp.out, ← Hf1.out]
  obtain ⟨pn, Hpn⟩ : ∃ n, Hid (n = p.props.length) := ⟨_, Lib.hid rfl⟩
  rw [← Hpn.out]
  have HOne := Lib.hid (ptC_one p qo pn qc)
  obtain ⟨N1, HN1⟩ : ∃ g, Hid (g = w1.heap.size) := ⟨_, Lib.hid rfl⟩
  obtain ⟨U1, HU1⟩ : ∃ w, Hid (w = w1.alloc (.cells (ptC p (.slice qo pn qc)).toArray 45)) := ⟨_, Lib.hid rfl⟩
  have HW1 : Hid (Whole U1 N1 45 (ptC p (.slice qo pn qc)).toArray) := Lib.hid (by rw [HU1.out, HN1.out]; exact Whole.new _ _ _)
  have HBU1 : Hid (Below V.heap.size V U1) := Lib.hid (by rw [HU1.out]; exact below_alloc HB1.out _)
  go_wp2_with (first
    | (with_reducible show wpList _ _ _ (Oper.mk _ (Op.store 45 _ _) _ _ _ _ :: _) _ _; refine Hid.out ?_))
  refine Lib.hid ?_
  refine wpList_store_new rfl _ _ _ rfl _ (ptC p (.slice qo pn qc)).toArray rfl rfl (HSz.out.trans rfl) rfl HOne.out ?_
  rw [← HU1.out, ← HN1.out]
  cases hfd : Con.find s part with
  | none =>
    obtain rfl : f1 = false := by rw [Hf1.out, hfd]; rfl
    obtain rfl : u = false := by rw [Hu.out]; unfold Con.permitted; rw [hfd]
    clear hfd
    go_wp2_with fail
    go_ret
    exact ⟨rfl, below_step HB.out HBU1.out⟩
  | some p' =>
  obtain rfl : p = p' := by rw [Hp.out]; unfold Con.got; rw [hfd]; rfl
  obtain rfl : f1 = true := by rw [Hf1.out, hfd]; rfl
  have Hfd := Lib.hid hfd
  clear hfd
  obtain ⟨pin, Hpin⟩ : ∃ u, Hid (u = p.into) := ⟨_, Lib.hid rfl⟩
  obtain ⟨psl, Hpsl⟩ : ∃ u, Hid (u = p.slot) := ⟨_, Lib.hid rfl⟩
  obtain ⟨pki, Hpki⟩ : ∃ u, Hid (u = p.kind) := ⟨_, Lib.hid rfl⟩
  have d2 : U1.cell? ⟨N1, 2, none⟩ = some (.string pin) := by rw [Hpin.out]; exact HW1.out.cell 2
  obtain ⟨b5, e5⟩ : ∃ b, pin.toList.isEmpty = b := ⟨_, rfl⟩
  have e5' : decide (p.into = Con.empty) = b5 := by rw [← Con.eq_empty, ← Hpin.out]; exact e5
  cases b5 with
  | true =>
    obtain rfl : u = true := by rw [Hu.out]; unfold Con.permitted; rw [Hfd.out]; dsimp only; rw [if_pos (of_decide_eq_true e5')]
    clear e5'
    go_wp2_with fail
    go_ret
    exact ⟨rfl, below_step HB.out HBU1.out⟩
  | false =>
  have Hne := Lib.hid (of_decide_eq_false e5')
  clear e5'
  have d1 := (cellB HBU1.out (by have := HVs.out; omega : N + 1 < V.heap.size)).trans Hv1.out
  go_wp2_with fail
  refine (HF1.out pin U1 (below_step HB.out HBU1.out)).mono ?_
  rintro e w2 ⟨ro, rc, rfl, _, hb⟩
  have HB2 := Lib.hid (below_step HBU1.out hb)
  have HW12 := Lib.hid (whole_belowM HW1.out hb)
  clear hb d1 d2
  obtain ⟨h, Hh⟩ : ∃ p, Hid (p = Con.got s pin) := ⟨_, Lib.hid rfl⟩
  obtain ⟨f2, Hf2⟩ : ∃ p, Hid (p = (Con.find s pin).isSome) := ⟨_, Lib.hid rfl⟩
  rw [← Hh.out, ← Hf2.out]
  obtain ⟨hn, Hhn⟩ : ∃ n, Hid (n = h.props.length) := ⟨_, Lib.hid rfl⟩
  rw [← Hhn.out]
  have HOne2 := Lib.hid (ptC_one h ro hn rc)
  obtain ⟨N2, HN2⟩ : ∃ g, Hid (g = w2.heap.size) := ⟨_, Lib.hid rfl⟩
  obtain ⟨U2, HU2⟩ : ∃ w, Hid (w = w2.alloc (.cells (ptC h (.slice ro hn rc)).toArray 45)) := ⟨_, Lib.hid rfl⟩
  have HW2 : Hid (Whole U2 N2 45 (ptC h (.slice ro hn rc)).toArray) := Lib.hid (by rw [HU2.out, HN2.out]; exact Whole.new _ _ _)
  have HW22 : Hid (Whole U2 N1 45 (ptC p (.slice qo pn qc)).toArray) := Lib.hid (by rw [HU2.out]; exact whole_belowM HW12.out ((Below.refl _ _).alloc (Nat.le_refl _) _))
  have HBU2 : Hid (Below V.heap.size V U2) := Lib.hid (by rw [HU2.out]; exact below_alloc HB2.out _)
  go_wp2_with (first
    | (with_reducible show wpList _ _ _ (Oper.mk _ (Op.store 45 _ _) _ _ _ _ :: _) _ _; refine Hid.out ?_))
  refine Lib.hid ?_
  refine wpList_store_new rfl _ _ _ rfl _ (ptC h (.slice ro hn rc)).toArray rfl rfl (HSz.out.trans rfl) rfl HOne2.out ?_
  rw [← HU2.out, ← HN2.out]
  cases hfd : Con.find s pin with
  | none =>
    obtain rfl : f2 = false := by rw [Hf2.out, hfd]; rfl
    obtain rfl : u = false := by rw [Hu.out]; unfold Con.permitted; rw [Hfd.out]; dsimp only; rw [if_neg Hne.out, ← Hpin.out, hfd]
    clear hfd
    go_wp2_with fail
    go_ret
    exact ⟨rfl, below_step HB.out HBU2.out⟩
  | some h' =>
  obtain rfl : h = h' := by rw [Hh.out]; unfold Con.got; rw [hfd]; rfl
  obtain rfl : f2 = true := by rw [Hf2.out, hfd]; rfl
  have Hfd2 := Lib.hid hfd
  clear hfd
  go_wp2_with (first
    | (with_reducible show wpList _ _ _ (Oper.mk _ (Op.load 45 _) _ _ _ _ :: _) _ _; refine Hid.out ?_))
  refine Lib.hid ?_
  refine wpList_load_mid rfl _ _ rfl N1 0 rfl _ _ HW22.out.range Try.underlying45 rfl (HSz.out.trans rfl) ?_
  refine wpList_load_mid rfl _ _ rfl N2 0 rfl _ _ HW2.out.range Try.underlying45 rfl (HSz.out.trans rfl) ?_
  have d1 := (cellB HBU2.out (by have := HVs.out; omega : N + 1 < V.heap.size)).trans Hv1.out
  go_wp2_with (first
    | (with_reducible show wpList _ _ _ (Oper.mk _ (Op.build _ _) _ _ _ _ :: _) _ _; refine Hid.out ?_))
  refine Lib.hid ?_
  have HBf := Lib.hid (build_fit p h qo ro pn qc hn rc so sn sc U2)
  have HOf := Lib.hid (fitC_one p h qo ro pn qc hn rc so sn sc)
  refine wpList_build3 rfl _ 0 1 2 _ _ _ rfl rfl rfl rfl HBf.out ?_
  obtain ⟨N3, HN3⟩ : ∃ g, Hid (g = U2.heap.size) := ⟨_, Lib.hid rfl⟩
  obtain ⟨U3, HU3⟩ : ∃ w, Hid (w = U2.alloc (.cells (fitC p h (.slice qo pn qc) (.slice ro hn rc) so sn sc).toArray 62)) := ⟨_, Lib.hid rfl⟩
  have HW3 : Hid (Whole U3 N3 62 (fitC p h (.slice qo pn qc) (.slice ro hn rc) so sn sc).toArray) := Lib.hid (by rw [HU3.out, HN3.out]; exact Whole.new _ _ _)
  have HBU3 : Hid (Below V.heap.size V U3) := Lib.hid (by rw [HU3.out]; exact below_alloc HBU2.out _)
  have HW23 : Hid (Whole U3 N2 45 (ptC h (.slice ro hn rc)).toArray) := Lib.hid (by rw [HU3.out]; exact whole_belowM HW2.out ((Below.refl _ _).alloc (Nat.le_refl _) _))
  go_wp2_with (first
    | (with_reducible show wpList _ _ _ (Oper.mk _ (Op.store 62 _ _) _ _ _ _ :: _) _ _; refine Hid.out ?_))
  refine Lib.hid ?_
  refine wpList_store_new rfl _ _ _ rfl _ (fitC p h (.slice qo pn qc) (.slice ro hn rc) so sn sc).toArray rfl rfl (HFz.out.trans rfl) rfl HOf.out ?_
  rw [← HU3.out, ← HN3.out]
  obtain ⟨hki, Hhki⟩ : ∃ u, Hid (u = h.kind) := ⟨_, Lib.hid rfl⟩
  have q0 := (cellB HBU3.out (by have := HVs.out; omega : N < V.heap.size)).trans Hv0.out
  have q1 : U3.cell? ⟨N2, 1, none⟩ = some (.string hki) := by rw [Hhki.out]; exact HW23.out.cell 1
  have q3 : U3.cell? ⟨N3, 3, none⟩ = some (.string psl) := by rw [Hpsl.out]; exact HW3.out.cell 3
  have q4 : U3.cell? ⟨N3, 1, none⟩ = some (.string pki) := by rw [Hpki.out]; exact HW3.out.cell 1
  have HNr := Lib.hid (HNm.out hki psl pki U3 (below_step HB.out HBU3.out))
  obtain ⟨nb, Hnb⟩ : ∃ b, Hid (b = Con.normal c hki psl pki) := ⟨_, Lib.hid rfl⟩
  rw [← Hnb.out] at HNr
  have HUv : Hid (u = (nb || subs.any (Con.permits s h p day))) := Lib.hid (by
    rw [Hu.out]; unfold Con.permitted; rw [Hfd.out]; dsimp only; rw [if_neg Hne.out, ← Hpin.out, Hfd2.out]; dsimp only; rw [Hnb.out, Hhki.out, Hpsl.out, Hpki.out])
  have hmf : ∀ (fn : Fn) (first cap : Array Value) (w : World), (Instr.makeFunc fn first cap).run Try.prog w = .ok (.func fn first cap) w := fun _ _ _ _ => rfl
  have hN1 : N < V.heap.size := by have := HVs.out; omega
  have hN2 : N + 1 + 1 < V.heap.size := HVs.out
  cases nb with
  | true =>
    obtain rfl : u = true := by rw [HUv.out]; rfl
    go_wp2_with fail
    refine HNr.out.mono ?_
    rintro e w4 ⟨rfl, hb⟩
    have HB4 := Lib.hid (below_step HB.out (below_step HBU3.out hb))
    clear hb
    go_wp2_with fail
    go_ret
    exact ⟨rfl, HB4.out⟩
  | false =>
    go_wp2_with fail
    refine HNr.out.mono ?_
    rintro e w4 ⟨rfl, hb⟩
    have HB4 := Lib.hid (below_step HBU3.out hb)
    have HSr := Lib.hid (HSS.out p h qo ro pn qc hn rc N3 (N + 1 + 1) w4 (below_step HB.out HB4.out) (whole_belowM HW3.out hb).range ((cellB HB4.out hN2).trans Hv2.out))
    rw [show (subs.any (Con.permits s h p day)) = u by rw [HUv.out]; rfl] at HSr
    clear hb
    go_wp2_with fail
    refine HSr.out.mono ?_
    rintro e w5 ⟨rfl, hb⟩
    have HB5 := Lib.hid (below_step HB.out (below_step HB4.out hb))
    clear hb
    go_wp2_with fail
    go_ret
    exact ⟨rfl, HB5.out⟩
end Go.Proofs.Ytapjnbofhdljfaa
