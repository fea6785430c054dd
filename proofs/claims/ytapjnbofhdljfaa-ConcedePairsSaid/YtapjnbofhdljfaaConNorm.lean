/- ConcedeNormal. -/
import Derived.Test.YtapjnbofhdljfaaConHead
import Derived.Test.YtapjnbofhdljfaaFltValid
import Derived.Test.YtapjnbofhdljfaaFreshW
namespace Go.Proofs.Ytapjnbofhdljfaa
open Go.RowKit
open Cat

theorem find_of_mem {s : List Prt} (h : s.Pairwise LtN) {p : Prt} (hp : p ∈ s) : Con.find s p.name = some p := by
  unfold Con.find
  induction s with
  | nil => cases hp
  | cons a s ih =>
    obtain ⟨h1, h2⟩ := List.pairwise_cons.1 h
    rcases List.mem_cons.1 hp with rfl | hp
    · rw [List.find?_cons_of_pos (by simp)]
    · rw [List.find?_cons_of_neg (by simpa using (h1 p hp).ne)]
      exact ih h2 hp
/-- What stands somewhere has a host. -/
theorem host_of {c : List Knd} {s : List Prt} (h : GoodState c s) {p : Prt} (hp : p ∈ s) (hi : p.into ≠ Con.empty) : ∃ q, Con.find s p.into = some q ∧ q ∈ s ∧ q.name = p.into ∧ Con.has (Con.taken c q.kind p.slot).1 p.kind = true := by
  obtain ⟨q, hq, hn, ht⟩ := h.placed.held p hp (fun hh => hi hh.1)
  exact ⟨q, by rw [← hn]; exact find_of_mem h.rising hq, hq, hn, ht⟩
theorem permitted_in {c : List Knd} {subs : List Sb} {s : List Prt} {p q : Prt} {day : Int} (h1 : Con.find s p.name = some p) (h2 : p.into ≠ Con.empty) (h3 : Con.find s p.into = some q) :
    Con.permitted c subs s p.name day = (Con.normal c q.kind p.slot p.kind || subs.any (Con.permits s q p day)) := by
  unfold Con.permitted
  rw [h1]
  dsimp only
  rw [if_neg h2, h3]
theorem permitted_out {c : List Knd} {subs : List Sb} {s : List Prt} {p : Prt} {day : Int} (h1 : Con.find s p.name = some p) (h2 : p.into = Con.empty) : Con.permitted c subs s p.name day = true := by
  unfold Con.permitted
  rw [h1]
  dsimp only
  rw [if_pos h2]
/-- A part that is none, as the walk makes it. -/
theorem run_alloc_part (d : Option Tmp) (t : TypeId) (pos : String) (af : Array Edge) (g : Option (Nat × Bool)) (ρ : Operand → Value) (w : World) :
    (execOp ρ ⟨d, .alloc 45, t, pos, af, g⟩).run Try.prog w = .ok (.value (.pointer (some ⟨w.heap.size, 0, none⟩))) (w.alloc (.cells zPart.toArray 45)) := by
  unfold zPart
  simp [go_sem]
theorem pick_lt {n : Nat} (hn : 0 < n) (z : Int) (hz : 0 ≤ z) : ∃ m : Nat, z % (n : Int) = m ∧ m < n := by
  refine ⟨(z % (n : Int)).toNat, ?_, ?_⟩
  · have := Int.emod_nonneg z (by omega : (n : Int) ≠ 0); omega
  · have := Int.emod_lt_of_pos z (by omega : (0 : Int) < n); have := Int.emod_nonneg z (by omega : (n : Int) ≠ 0); omega

set_option maxRecDepth 100000 in
set_option maxHeartbeats 8000000 in
theorem normal_law (c : List Knd) (co : Option Addr) (cc : Nat) (hlc : c.length ≤ 9223372036854775807) (hcz : ∀ k ∈ c, SzKnd k) (subs : List Sb) (bo : Option Addr) (bc : Nat) (hlb : subs.length ≤ 9223372036854775807) (s : List Prt) (so : Option Addr) (sc : Nat) (hls : s.length ≤ 9223372036854775807) (hsz : ∀ p ∈ s, SzPrt p)
    (raw : Int) (hr0 : 0 ≤ raw) (hr1 : raw < 256) (day : Int) (W : World) (hc : IsL 3 ElKnd W co c) (hb : IsL 5 ElSub W bo subs) (hi : IsL 14 ElPrt W so s) :
    Calls Try.prog 6 #[.agg #[.slice co c.length cc], .slice bo subs.length bc, .agg #[.slice so s.length sc], .int .u8 raw, .int .i64 day] W fun e w' => e = .returned (.bool true) ∧ Below W.heap.size W w' := by
  have HFew := Lib.hid (fun (w : World) (hw : Below W.heap.size W w) => few27_any co c cc bo subs bc so s sc hlc hlb hls w (hc.below stKnd hw) (hb.below stSub hw) (hi.below stPrt hw))
  have HVd := Lib.hid (fun (h : s.length ≤ 1000000) (w : World) (hw : Below W.heap.size W w) => valid_any co c cc so s sc hlc h hcz hsz w (hc.below stKnd hw) (hi.below stPrt hw))
  have HP := Lib.hid (fun (hf : FewProps s) (day : Int) (part : ByteArray) (w : World) (hw : Below W.heap.size W w) => permitted_any co c cc bo subs bc so s sc part day hlc hlb hf w (hc.below stKnd hw) (hb.below stSub hw) (hi.below stPrt hw))
  have HP0 := Lib.hid (fun (hf : FewProps s) (day : Int) (part : ByteArray) (w : World) (hw : Below W.heap.size W w) => permitted_any co c cc none [] 0 so s sc part day hlc (by simp) hf w (hc.below stKnd hw) IsL.nil (hi.below stPrt hw))
  have HFi := Lib.hid (fun (hf : FewProps s) (part : ByteArray) (w : World) (hw : Below W.heap.size W w) => find_any so s sc part hls hf.2 w (hi.below stPrt hw))
  have HNm := Lib.hid (fun (k sl o : ByteArray) (w : World) (hw : Below W.heap.size W w) => normal_any co c cc k sl o hlc w (hc.below stKnd hw))
  have HH := Lib.hid head_any
  have HI := Lib.hid hi
  have HSz := Lib.hid part_size
  obtain ⟨cn, Hcn⟩ : ∃ n, Hid (n = c.length) := ⟨_, Lib.hid rfl⟩
  obtain ⟨bn, Hbn⟩ : ∃ n, Hid (n = subs.length) := ⟨_, Lib.hid rfl⟩
  obtain ⟨sn, Hsn⟩ : ∃ n, Hid (n = s.length) := ⟨_, Lib.hid rfl⟩
  rw [← Hcn.out, ← Hbn.out, ← Hsn.out] at HFew HP
  rw [← Hcn.out, ← Hsn.out] at HVd
  rw [← Hcn.out, ← Hsn.out, show ([] : List Sb).length = 0 from rfl] at HP0
  rw [← Hsn.out] at HFi hls
  rw [← Hcn.out] at HNm
  rw [← Hcn.out, ← Hbn.out, ← Hsn.out]
  clear hc hb hi hcz hsz
  obtain ⟨N, HN⟩ : ∃ N, Hid (N = W.heap.size) := ⟨_, Lib.hid rfl⟩
  obtain ⟨V, HV⟩ : ∃ w, Hid (w = (W.alloc (.cells #[.slice co cn cc] 24)).alloc (.cells #[.slice so sn sc] 28)) := ⟨_, Lib.hid rfl⟩
  have HB : Hid (Below W.heap.size W V) := Lib.hid (by rw [HV.out]; exact below_alloc ((Below.refl _ _).alloc (Nat.le_refl _) _) _)
  have v0 : V.cell? ⟨N, 0, none⟩ = some (.slice co cn cc) := by rw [HV.out, HN.out]; go_simp
  have v1 : V.cell? ⟨N + 1, 0, none⟩ = some (.slice so sn sc) := by rw [HV.out, HN.out]; go_simp
  have l0 := lt_of_cell v0
  have l1 := lt_of_cell v1
  go_enter Try.func6, Try.ntmps6
  go_wp2_with fail
  rw [← HN.out, ← HV.out]
  refine (HH.out V).mono ?_
  rintro e w1 ⟨rfl, hb1⟩
  have HB1 := Lib.hid hb1
  have d0 := (cellB hb1 l0).trans v0
  have d1 := (cellB hb1 l1).trans v1
  clear hb1
  go_wp2_with fail
  refine (HFew.out w1 (below_step HB.out HB1.out)).mono ?_
  rintro e w2 ⟨b2, rfl, hf, hb2⟩
  have HB2 := Lib.hid (below_step HB1.out hb2)
  clear hb2 d0 d1
  cases b2 with
  | false =>
    go_wp2_with fail
    go_ret
    exact ⟨rfl, below_step HB.out HB2.out⟩
  | true =>
  have HF := Lib.hid (show FewProps s from by
    obtain ⟨q1, q2, q3⟩ := hf rfl
    exact ⟨by rw [← Hsn.out]; omega, fun p hp => by have := q3 p hp; omega⟩)
  have hsn : sn ≤ 1000000 := by rw [Hsn.out]; exact HF.out.1
  clear hf
  have d0 := (cellB HB2.out l0).trans v0
  have d1 := (cellB HB2.out l1).trans v1
  go_wp2_with fail
  refine (HVd.out hsn w2 (below_step HB.out HB2.out)).mono ?_
  rintro e w3 ⟨b3, rfl, hg, hb3⟩
  have HG := Lib.hid hg
  have HB3 := Lib.hid (below_step HB2.out hb3)
  clear hb3 hg d0 d1
  cases b3 with
  | false =>
    go_wp2_with fail
    go_ret
    exact ⟨rfl, below_step HB.out HB3.out⟩
  | true =>
  have d1 := (cellB HB3.out l1).trans v1
  by_cases hn0 : sn = 0
  · have e0 : ((sn : Int) == 0) = true := by rw [hn0]; rfl
    go_wp2_with fail
    go_ret
    exact ⟨rfl, below_step HB.out HB3.out⟩
  have e0 : ((sn : Int) == 0) = false := by
    have : ((sn : Int) == 0) = decide ((sn : Int) = 0) := rfl
    rw [this, decide_eq_false]; omega
  go_wp2_with fail
  clear e0 d1
  obtain ⟨m, hm, hmn⟩ := pick_lt (n := sn) (by omega) raw hr0
  have hml : m < s.length := by rw [← Hsn.out]; exact hmn
  obtain ⟨bk, off, cs, rfl, hbk, hrg, po, pc, rfl, hpr, hp9⟩ := HI.out.at hml
  obtain ⟨p, Hp⟩ : ∃ x, Hid (x = s[m]) := ⟨_, Lib.hid rfl⟩
  rw [← Hp.out] at hrg
  obtain ⟨pn, Hpn⟩ : ∃ x, Hid (x = s[m].props.length) := ⟨_, Lib.hid rfl⟩
  rw [← Hp.out] at Hpn
  rw [← Hpn.out] at hrg
  have HRg := Lib.hid (rangeB hrg hbk (below_step HB.out HB3.out))
  have HOne := Lib.hid (ptC_one p po pn pc)
  clear hrg hbk hpr hp9
  obtain ⟨s0, s1, s2, s3, z4, z5, b6, ps, i0, i1, i2, i3, i4, i5⟩ := p
  apply wp_region_freshW 10 1 99 (fun _ => 45) (fun _ => zPart.toArray) (fun _ => (ptC ⟨s0, s1, s2, s3, z4, z5, b6, ps, i0, i1, i2, i3, i4, i5⟩ (.slice po pn pc)).toArray) _ (by kernel_rfl) (by kernel_rfl) rfl
  · intro w0 h0
    have q1 : ∀ x : Grown w0, x.w.cell? ⟨N + 1, 0, none⟩ = some (.slice (some ⟨bk, off, none⟩) sn sc) := fun x => (cellB (below_step HB3.out (below_step h0 x.below)) l1).trans v1
    have hrg := rangeB HRg.out (lt_of_cell (HRg.out 0 _ rfl)) h0
    have hlt : bk < w0.heap.size := lt_of_cell (hrg 0 _ rfl)
    have g0 : ∀ x : Grown w0, x.w.cell? ⟨bk, off + m * 14, none⟩ = some (.string s0) := fun x => by rw [x.cell hlt]; exact hrg 0 _ rfl
    have g1 : ∀ x : Grown w0, x.w.cell? ⟨bk, off + m * 14 + 1, none⟩ = some (.string s1) := fun x => by rw [x.cell hlt]; exact hrg 1 _ rfl
    have g2 : ∀ x : Grown w0, x.w.cell? ⟨bk, off + m * 14 + 2, none⟩ = some (.string s2) := fun x => by rw [x.cell hlt]; exact hrg 2 _ rfl
    have g3 : ∀ x : Grown w0, x.w.cell? ⟨bk, off + m * 14 + 3, none⟩ = some (.string s3) := fun x => by rw [x.cell hlt]; exact hrg 3 _ rfl
    have g4 : ∀ x : Grown w0, x.w.cell? ⟨bk, off + m * 14 + 4, none⟩ = some (.int .i64 z4) := fun x => by rw [x.cell hlt]; exact hrg 4 _ rfl
    have g5 : ∀ x : Grown w0, x.w.cell? ⟨bk, off + m * 14 + 5, none⟩ = some (.int .i64 z5) := fun x => by rw [x.cell hlt]; exact hrg 5 _ rfl
    have g6 : ∀ x : Grown w0, x.w.cell? ⟨bk, off + m * 14 + 6, none⟩ = some (.bool b6) := fun x => by rw [x.cell hlt]; exact hrg 6 _ rfl
    have g7 : ∀ x : Grown w0, x.w.cell? ⟨bk, off + m * 14 + 7, none⟩ = some (.slice po pn pc) := fun x => by rw [x.cell hlt]; exact hrg 7 _ rfl
    have g8 : ∀ x : Grown w0, x.w.cell? ⟨bk, off + m * 14 + 8, none⟩ = some (.int .i64 i0) := fun x => by rw [x.cell hlt]; exact hrg 8 _ rfl
    have g9 : ∀ x : Grown w0, x.w.cell? ⟨bk, off + m * 14 + 9, none⟩ = some (.int .i64 i1) := fun x => by rw [x.cell hlt]; exact hrg 9 _ rfl
    have g10 : ∀ x : Grown w0, x.w.cell? ⟨bk, off + m * 14 + 10, none⟩ = some (.int .i64 i2) := fun x => by rw [x.cell hlt]; exact hrg 10 _ rfl
    have g11 : ∀ x : Grown w0, x.w.cell? ⟨bk, off + m * 14 + 11, none⟩ = some (.int .i64 i3) := fun x => by rw [x.cell hlt]; exact hrg 11 _ rfl
    have g12 : ∀ x : Grown w0, x.w.cell? ⟨bk, off + m * 14 + 12, none⟩ = some (.int .i64 i4) := fun x => by rw [x.cell hlt]; exact hrg 12 _ rfl
    have g13 : ∀ x : Grown w0, x.w.cell? ⟨bk, off + m * 14 + 13, none⟩ = some (.int .i64 i5) := fun x => by rw [x.cell hlt]; exact hrg 13 _ rfl
    clear h0 hrg hlt
    have hb0 : (0 : Int) ≤ m := by omega
    have hb1 : (m : Int) < sn := by omega
    simp only [List.take_succ_cons, List.take_zero]
    repeat (go_big_quiet_step (fail))
    exact wpQuiet_nil rfl
  · intro k hk o ho
    obtain rfl : k = 0 := by omega
    simp only [List.getElem?_cons_succ, List.getElem?_cons_zero, Option.some.injEq] at ho
    subst ho
    exact fun ρ w' => run_alloc_part _ _ _ _ _ ρ w'
  · intro k hk o ho A b w' hP hV hw
    obtain rfl : k = 0 := by omega
    simp only [List.getElem?_cons_succ, List.getElem?_cons_zero, Option.some.injEq] at ho
    subst ho
    exact run_store_W _ _ _ _ _ _ _ _ A b _ _ _ w' (hP _ rfl) ((hV _ (by decide) (by simp [dstOf])).trans rfl) hw (HSz.out.trans rfl) rfl HOne.out
  · intro b X hbl hwh hoth
    obtain ⟨hhi, hw⟩ := hwh 0 (by omega)
    obtain ⟨g, Hg⟩ : ∃ g, Hid (g = b 0) := ⟨_, Lib.hid rfl⟩
    rw [← Hg.out] at hw
    have HW := Lib.hid hw
    have HBX := Lib.hid (below_step HB3.out hbl)
    have HMem : Hid ((⟨s0, s1, s2, s3, z4, z5, b6, ps, i0, i1, i2, i3, i4, i5⟩ : Prt) ∈ s) := Lib.hid (by rw [Hp.out]; exact List.getElem_mem hml)
    have HGd := Lib.hid (HG.out trivial)
    have HFp := Lib.hid (find_of_mem HGd.out.rising HMem.out)
    clear hbl hwh hoth hw hhi
    simp only [ptrs, dstOf, List.getElem?_toArray, List.getElem?_cons_succ, List.getElem?_cons_zero, Option.bind_some, ← Hg.out]
    go_simp
    obtain ⟨a1, Ha1⟩ : ∃ x, Hid (x = Con.permitted c [] s s0 day) := ⟨_, Lib.hid rfl⟩
    obtain ⟨a2, Ha2⟩ : ∃ x, Hid (x = Con.permitted c subs s s0 day) := ⟨_, Lib.hid rfl⟩
    have HNo : Hid (∀ Z : Grown X, Below W.heap.size W Z.w) := Lib.hid (fun Z => below_step HB.out (below_step HBX.out Z.below))
    have HQ1 := Lib.hid (fun Z : Grown X => grown_of (x := Z) (HP0.out HF.out day s0 Z.w (HNo.out Z)))
    have HQ2 := Lib.hid (fun Z : Grown X => grown_of (x := Z) (HP.out HF.out day s0 Z.w (HNo.out Z)))
    rw [← Ha1.out] at HQ1
    rw [← Ha2.out] at HQ2
    have gN : ∀ Z : Grown X, Z.w.cell? ⟨N, 0, none⟩ = some (.slice co cn cc) := fun Z => (cellB (below_step HBX.out Z.below) l0).trans v0
    have gS : ∀ Z : Grown X, Z.w.cell? ⟨N + 1, 0, none⟩ = some (.slice (some ⟨bk, off, none⟩) sn sc) := fun Z => (cellB (below_step HBX.out Z.below) l1).trans v1
    have g0 : ∀ Z : Grown X, Z.w.cell? ⟨g, 0, none⟩ = some (.string s0) := fun Z => by rw [Z.cell HW.out.lt]; exact HW.out.cell 0
    go_wp2_with fail
    refine wp_region_grown (by kernel_rfl) (by kernel_rfl) ?_
    iterate 6 (go_big_quiet_step (exact HQ1.out _))
    repeat (go_big_quiet_step (exact HQ2.out _))
    refine wpQuiet_nil ?_
    rintro _ ⟨Z, rfl⟩
    have HWZ := Lib.hid (whole_belowM HW.out Z.below)
    have q2 : Z.w.cell? ⟨g, 2, none⟩ = some (.string s2) := HWZ.out.cell 2
    obtain ⟨b5, e5⟩ : ∃ b, s2.toList.isEmpty = b := ⟨_, rfl⟩
    have e5' : decide (s2 = Con.empty) = b5 := by rw [← Con.eq_empty]; exact e5
    cases b5 with
    | true =>
      obtain rfl : a1 = true := by rw [Ha1.out]; exact permitted_out (p := ⟨s0, s1, s2, s3, z4, z5, b6, ps, i0, i1, i2, i3, i4, i5⟩) HFp.out (of_decide_eq_true e5')
      obtain rfl : a2 = true := by rw [Ha2.out]; exact permitted_out (p := ⟨s0, s1, s2, s3, z4, z5, b6, ps, i0, i1, i2, i3, i4, i5⟩) HFp.out (of_decide_eq_true e5')
      clear e5'
      go_wp2_with fail
      go_ret
      exact ⟨rfl, HNo.out Z⟩
    | false =>
      have hne : s2 ≠ Con.empty := of_decide_eq_false e5'
      obtain ⟨q, hq1, hq2, hq3, -⟩ := host_of HGd.out HMem.out hne
      have HQf := Lib.hid hq1
      obtain ⟨nb, Hnb⟩ : ∃ x, Hid (x = Con.normal c q.kind s3 s1) := ⟨_, Lib.hid rfl⟩
      have HE1 : Hid (a1 = nb) := Lib.hid (by rw [Ha1.out, permitted_in HFp.out hne hq1, Hnb.out]; simp)
      have HE2 : Hid (a2 = (nb || subs.any (Con.permits s q ⟨s0, s1, s2, s3, z4, z5, b6, ps, i0, i1, i2, i3, i4, i5⟩ day))) := Lib.hid (by rw [Ha2.out, permitted_in HFp.out hne hq1, Hnb.out])
      obtain rfl := HE1.out
      clear e5' hne hq1 hq2 hq3
      have q1 := gS Z
      go_wp2_with fail
      refine (HFi.out HF.out s2 Z.w (HNo.out Z)).mono ?_
      rintro e w4 ⟨qo, qc, rfl, -, hb⟩
      have HB4 := Lib.hid (below_step (HNo.out Z) hb)
      have HB4' := Lib.hid (below_step Z.below hb)
      have hgot : Con.got s s2 = q := by unfold Con.got; rw [HQf.out]; rfl
      rw [hgot, show (Con.find s s2).isSome = true by rw [HQf.out]; rfl]
      clear hb hgot q1 q2
      obtain ⟨qn, Hqn⟩ : ∃ x, Hid (x = q.props.length) := ⟨_, Lib.hid rfl⟩
      rw [← Hqn.out]
      have HOne2 := Lib.hid (ptC_one q qo qn qc)
      obtain ⟨g2, Hg2⟩ : ∃ g, Hid (g = w4.heap.size) := ⟨_, Lib.hid rfl⟩
      obtain ⟨U, HU⟩ : ∃ w, Hid (w = w4.alloc (.cells (ptC q (.slice qo qn qc)).toArray 45)) := ⟨_, Lib.hid rfl⟩
      have HWU : Hid (Whole U g2 45 (ptC q (.slice qo qn qc)).toArray) := Lib.hid (by rw [HU.out, Hg2.out]; exact Whole.new _ _ _)
      have HBU : Hid (Below w4.heap.size w4 U) := Lib.hid (by rw [HU.out]; exact (Below.refl _ _).alloc (Nat.le_refl _) _)
      go_wp2_with (first
        | (with_reducible show wpList _ _ _ (Oper.mk _ (Op.store 45 _ _) _ _ _ _ :: _) _ _; refine Hid.out ?_))
      refine Lib.hid ?_
      refine wpList_store_new rfl _ _ _ rfl _ (ptC q (.slice qo qn qc)).toArray rfl rfl (HSz.out.trans rfl) rfl HOne2.out ?_
      rw [← HU.out, ← Hg2.out]
      have HWg := Lib.hid (whole_belowM HW.out (below_step HB4'.out HBU.out))
      obtain ⟨qk, Hqk⟩ : ∃ x, Hid (x = q.kind) := ⟨_, Lib.hid rfl⟩
      have r1 : U.cell? ⟨g2, 1, none⟩ = some (.string qk) := by rw [Hqk.out]; exact HWU.out.cell 1
      have r3 : U.cell? ⟨g, 3, none⟩ = some (.string s3) := HWg.out.cell 3
      have r4 : U.cell? ⟨g, 1, none⟩ = some (.string s1) := HWg.out.cell 1
      have rN : U.cell? ⟨N, 0, none⟩ = some (.slice co cn cc) := (cellB (below_step HBX.out (below_step HB4'.out HBU.out)) l0).trans v0
      have HC5 := Lib.hid (HNm.out qk s3 s1 U (below_step HB4.out HBU.out))
      rw [show Con.normal c qk s3 s1 = a1 by rw [Hqk.out, Hnb.out]] at HC5
      go_wp2_with fail
      refine HC5.out.mono ?_
      rintro e w5 ⟨rfl, hb⟩
      have HB5 := Lib.hid (below_step (below_step HB4.out HBU.out) hb)
      clear hb
      cases a1 with
      | false =>
        go_wp2_with fail
        go_ret
        exact ⟨rfl, HB5.out⟩
      | true =>
        obtain rfl : a2 = true := by rw [HE2.out]; rfl
        go_wp2_with fail
        go_ret
        exact ⟨rfl, HB5.out⟩
theorem normal_row (co : Option Addr) (c : List Knd) (cc : Nat) (hlc : c.length ≤ 9223372036854775807) (hcz : ∀ k ∈ c, SzKnd k) (bo : Option Addr) (subs : List Sb) (bc : Nat) (hlb : subs.length ≤ 9223372036854775807) (so : Option Addr) (s : List Prt) (sc : Nat) (hls : s.length ≤ 9223372036854775807) (hsz : ∀ p ∈ s, SzPrt p)
    (raw : Int) (hr0 : 0 ≤ raw) (hr1 : raw ≤ 255) (day : Int) (W : World) (hc : IsL 3 ElKnd W co c) (hb : IsL 5 ElSub W bo subs) (hi : IsL 14 ElPrt W so s) :
    Calls Try.prog 6 #[.agg #[.slice co c.length cc], .slice bo subs.length bc, .agg #[.slice so s.length sc], .int .u8 raw, .int .i64 day] W fun e w' => e = .returned (.bool true) ∧ Below W.heap.size W w' :=
  normal_law c co cc hlc hcz subs bo bc hlb s so sc hls hsz raw hr0 (by omega) day W hc hb hi
end Go.Proofs.Ytapjnbofhdljfaa
