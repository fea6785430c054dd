/- The laws' head. -/
import Derived.Test.YtapjnbofhdljfaaConExample
namespace Go.Proofs.Ytapjnbofhdljfaa
open Go.RowKit
open Cat

def exPlain : List Sb := [⟨sCoach, sA, sDiesel, Con.empty, 9⟩]
def exPair : List Sb := [⟨sCoach, sA, sDiesel, sB, 9⟩]
def exLess : List Prt := [exPart sM1 sDiesel sV1 sA, exPart sM2 sDiesel Con.empty sB, exPart sV1 sCoach Con.empty Con.empty]
theorem parts_of {w : World} {b : Nat} {s : List Prt} (h : Whole w b 45 (s.flatMap fun p => ptC p (.slice none 0 0)).toArray) (hp : ∀ p ∈ s, p.props = []) : IsL 14 ElPrt w (some ⟨b, 0, none⟩) s := by
  refine IsL.whole (css := s.map fun p => ptC p (.slice none 0 0)) (by rw [← List.flatMap_def]; exact h) (by simp) (by intro cs hc; obtain ⟨p, _, rfl⟩ := List.mem_map.1 hc; rfl) fun k hk hk' => ?_
  have hz := hp _ (List.getElem_mem hk)
  refine ⟨none, 0, ?_, ?_, ?_⟩
  · rw [List.getElem_map, hz]; rfl
  · rw [hz]; exact IsL.nil
  · rw [hz]; exact Nat.zero_le _
theorem subs_of {w : World} {b : Nat} {x : Sb} (h : Whole w b 51 (subC x).toArray) : IsL 5 ElSub w (some ⟨b, 0, none⟩) [x] := by
  refine IsL.whole (css := [subC x]) (by simpa using h) rfl (by intro cs hc; rw [List.mem_singleton.1 hc]; rfl) fun k hk hk' => ?_
  have : k = 0 := by simpa using hk
  subst this
  rfl
theorem con_of {w : World} {b : Nat} {c : Cn} (h : Whole w b 56 #[.string c.part, .string c.rule, .int .i64 c.to]) : IsL 3 ElCon w (some ⟨b, 0, none⟩) [c] := by
  refine IsL.whole (css := [[.string c.part, .string c.rule, .int .i64 c.to]]) (by simpa using h) rfl (by intro cs hc; rw [List.mem_singleton.1 hc]; rfl) fun k hk hk' => ?_
  have : k = 0 := by simpa using hk
  subst this
  rfl
theorem e1 : Con.exempt [⟨sM1, sR, 5⟩] sM1 sR 5 = true := by decide +kernel
theorem e2 : Con.exempt [⟨sM1, sR, 5⟩] sM1 sR 6 = false := by decide +kernel
theorem e3 : Con.exempt [⟨sM1, sR, 5⟩] sM2 sR 5 = false := by decide +kernel
theorem p1 : Con.permitted exKinds [] exParts sM1 0 = false := by decide +kernel
theorem p2 : Con.permitted exKinds exPlain exParts sM1 9 = true := by decide +kernel
theorem p3 : Con.permitted exKinds exPlain exParts sM1 10 = false := by decide +kernel
theorem p4 : Con.permitted exKinds exPair exParts sM1 9 = true := by decide +kernel
theorem p5 : Con.permitted exKinds exPair exParts sM2 9 = false := by decide +kernel
theorem p6 : Con.permitted exKinds exPair exLess sM1 9 = false := by decide +kernel
theorem p7 : Con.permitted exKinds [] exLess sV1 0 = true := by decide +kernel
set_option maxRecDepth 100000 in
set_option maxHeartbeats 8000000 in
theorem head_any (W : World) : Calls Try.prog 9 #[] W fun e w' => e = .returned (.bool true) ∧ Below W.heap.size W w' := by
  go_enter Try.func9, Try.ntmps9
  go_wp2_with fail
  refine (example_any W).mono ?_
  rintro e w6 ⟨a, b, rfl, hk, hp, hWb, hb⟩
  have HK := Lib.hid hk
  have HP := Lib.hid hp
  have HB6 := Lib.hid hb
  clear hk hp hb
  have hbl := HP.out.lt
  obtain ⟨N, HN⟩ : ∃ N, Hid (N = w6.heap.size) := ⟨_, Lib.hid rfl⟩
  go_wp2_with (first
    | (with_reducible show wpList _ _ _ (Oper.mk _ (Op.load 24 _) _ _ _ _ :: _) _ _; refine Hid.out ?_))
  refine Lib.hid ?_
  obtain ⟨U, HU⟩ : ∃ w, Hid (w = (((w6.alloc (.cells #[.slice (some ⟨a, 0, none⟩) 3 3] 24)).alloc (.cells #[.slice (some ⟨b, 0, none⟩) 3 3] 28)).alloc (.cells #[.string ⟨#[99, 111, 97, 99, 104]⟩, .string ⟨#[97]⟩, .string ⟨#[100, 105, 101, 115, 101, 108]⟩, .string ⟨#[]⟩, .int .i64 9] 51)).alloc (.cells #[.string ⟨#[99, 111, 97, 99, 104]⟩, .string ⟨#[97]⟩, .string ⟨#[100, 105, 101, 115, 101, 108]⟩, .string ⟨#[98]⟩, .int .i64 9] 51)) := ⟨_, Lib.hid rfl⟩
  rw [← HN.out, ← HU.out]
  have hz : ∀ (o : Obj) (w : World), Below w.heap.size w (w.alloc o) := fun o w => (Below.refl _ _).alloc (Nat.le_refl _) _
  have HBU : Hid (Below w6.heap.size w6 U) := Lib.hid (by rw [HU.out]; exact below_alloc (below_alloc (below_alloc (hz _ _) _) _) _)
  have HU0 : Hid (Whole U N 24 #[.slice (some ⟨a, 0, none⟩) 3 3]) := Lib.hid (by rw [HU.out]; exact whole_belowM (whole_belowM (whole_belowM (Whole.newAt _ _ HN.out) (hz _ _)) (hz _ _)) (hz _ _))
  have HU1 : Hid (Whole U (N + 1) 28 #[.slice (some ⟨b, 0, none⟩) 3 3]) := Lib.hid (by rw [HU.out]; exact whole_belowM (whole_belowM (Whole.newAt _ _ (by simp only [size_alloc]; rw [HN.out])) (hz _ _)) (hz _ _))
  have HU2 : Hid (Whole U (N + 1 + 1) 51 (subC ⟨sCoach, sA, sDiesel, Con.empty, 9⟩).toArray) := Lib.hid (by rw [HU.out]; exact whole_belowM (Whole.newAt _ _ (by simp only [size_alloc]; rw [HN.out])) (hz _ _))
  have HU3 : Hid (Whole U (N + 1 + 1 + 1) 51 (subC ⟨sCoach, sA, sDiesel, sB, 9⟩).toArray) := Lib.hid (by rw [HU.out]; exact Whole.newAt _ _ (by simp only [size_alloc]; rw [HN.out]))
  have HUP := Lib.hid (whole_belowM HP.out HBU.out)
  have hfp : FewProps exParts := ⟨by decide, by decide⟩
  have hpp : ∀ p ∈ exParts, p.props = [] := by decide
  have HC1 := Lib.hid (fun (n : ByteArray) (day : Int) (w : World) (hw : Below U.heap.size U w) => permitted_any (some ⟨a, 0, none⟩) exKinds 3 none [] 0 (some ⟨b, 0, none⟩) exParts 3 n day (by decide) (by decide) hfp w ((HK.out U HBU.out.size (fun k hk _ => HBU.out.block k hk)).below stKnd hw) IsL.nil (parts_of (whole_belowM HUP.out hw) hpp))
  have HC2 := Lib.hid (fun (n : ByteArray) (day : Int) (w : World) (hw : Below U.heap.size U w) => permitted_any (some ⟨a, 0, none⟩) exKinds 3 (some ⟨N + 1 + 1, 0, none⟩) exPlain 1 (some ⟨b, 0, none⟩) exParts 3 n day (by decide) (by decide) hfp w ((HK.out U HBU.out.size (fun k hk _ => HBU.out.block k hk)).below stKnd hw) (subs_of (whole_belowM HU2.out hw)) (parts_of (whole_belowM HUP.out hw) hpp))
  have HC3 := Lib.hid (fun (n : ByteArray) (day : Int) (w : World) (hw : Below U.heap.size U w) => permitted_any (some ⟨a, 0, none⟩) exKinds 3 (some ⟨N + 1 + 1 + 1, 0, none⟩) exPair 1 (some ⟨b, 0, none⟩) exParts 3 n day (by decide) (by decide) hfp w ((HK.out U HBU.out.size (fun k hk _ => HBU.out.block k hk)).below stKnd hw) (subs_of (whole_belowM HU3.out hw)) (parts_of (whole_belowM HUP.out hw) hpp))
  have c0 := HU0.out.cell 0
  have c1 := HU1.out.cell 0
  have l0 := HU0.out.lt
  have l1 := HU1.out.lt
  clear hfp hpp
  go_wp2_with fail
  have q1 := HC1.out sM1 0 U (Below.refl _ _)
  rw [p1] at q1
  refine q1.mono ?_
  rintro e v1 ⟨rfl, hb1⟩
  have d0 := (cellB hb1 l0).trans c0
  have d1 := (cellB hb1 l1).trans c1
  have HV1 := Lib.hid hb1
  clear hb1 q1
  go_wp2_with fail
  have q2 := HC2.out sM1 9 v1 HV1.out
  rw [p2] at q2
  refine q2.mono ?_
  rintro e v2 ⟨rfl, hb2⟩
  have HV2 := Lib.hid (below_step HV1.out hb2)
  clear hb2 q2 d0 d1
  have d0 := (cellB HV2.out l0).trans c0
  have d1 := (cellB HV2.out l1).trans c1
  go_wp2_with fail
  have q3 := HC2.out sM1 10 v2 HV2.out
  rw [p3] at q3
  refine q3.mono ?_
  rintro e v3 ⟨rfl, hb3⟩
  have HV3 := Lib.hid (below_step HV2.out hb3)
  clear hb3 q3 d0 d1
  have d0 := (cellB HV3.out l0).trans c0
  have d1 := (cellB HV3.out l1).trans c1
  go_wp2_with fail
  have q4 := HC3.out sM1 9 v3 HV3.out
  rw [p4] at q4
  refine q4.mono ?_
  rintro e v4 ⟨rfl, hb4⟩
  have HV4 := Lib.hid (below_step HV3.out hb4)
  clear hb4 q4 d0 d1
  have d0 := (cellB HV4.out l0).trans c0
  have d1 := (cellB HV4.out l1).trans c1
  go_wp2_with fail
  have q5 := HC3.out sM2 9 v4 HV4.out
  rw [p5] at q5
  refine q5.mono ?_
  rintro e v5 ⟨rfl, hb5⟩
  have HV5 := Lib.hid (below_step HV4.out hb5)
  clear hb5 q5 d0 d1
  have d1 := (cellB HV5.out l1).trans c1
  have HP5 := Lib.hid (whole_belowM HUP.out HV5.out)
  have z16 : v5.cell? ⟨b, 16, none⟩ = some (.string sV1) := HP5.out.cell 16
  have f16 := HP5.out.frozen 16
  go_wp2_with (first
    | (with_reducible show wpList _ _ _ (Oper.mk _ (Op.build 56 _) _ _ _ _ :: _) _ _; refine Hid.out ?_))
  refine Lib.hid ?_
  obtain ⟨v6, Hv6⟩ : ∃ w, Hid (w = v5.setCell ⟨b, 16, none⟩ (.string ⟨#[]⟩)) := ⟨_, Lib.hid rfl⟩
  rw [← Hv6.out]
  have hg6 : v5.grownBy v6 (some b) := by rw [Hv6.out]; exact ⟨rfl, rfl, rfl, by simp, fun j _ hj => Below.heap_setCell _ _ _ _ (fun e => hj (by rw [e]))⟩
  have HP6 : Hid (Whole v6 b 45 (exLess.flatMap fun p => ptC p (.slice none 0 0)).toArray) := Lib.hid (by rw [Hv6.out]; exact HP5.out.set 16 (.string ⟨#[]⟩))
  have hbN : b < N := by rw [HN.out]; exact hbl
  have HK6 : Hid (IsL 3 ElKnd v6 (some ⟨a, 0, none⟩) exKinds) := Lib.hid (HK.out v6 (Nat.le_trans HBU.out.size (Nat.le_trans HV5.out.size hg6.size)) fun k hk hne => by
    have h1 : k < U.heap.size := Nat.lt_of_lt_of_le hk HBU.out.size
    rw [hg6.block k (Nat.lt_of_lt_of_le h1 HV5.out.size) (fun e => hne (Option.some.inj e)), HV5.out.block k h1, HBU.out.block k hk])
  have HU06 := Lib.hid (whole_grownM (whole_belowM HU0.out HV5.out) hg6 (by simp; omega))
  have HU16 := Lib.hid (whole_grownM (whole_belowM HU1.out HV5.out) hg6 (by simp; omega))
  have HU36 := Lib.hid (whole_grownM (whole_belowM HU3.out HV5.out) hg6 (by simp; omega))
  have HB6v : Hid (Below W.heap.size W v6) := Lib.hid ((below_step HB6.out (below_step HBU.out HV5.out)).grown hg6 (below_step HB6.out (below_step HBU.out HV5.out)).size (fun y e => by cases e; exact hWb))
  obtain ⟨M, HM⟩ : ∃ N, Hid (N = v6.heap.size) := ⟨_, Lib.hid rfl⟩
  obtain ⟨X, HX⟩ : ∃ w, Hid (w = v6.alloc (.cells #[.string ⟨#[109, 49]⟩, .string ⟨#[114]⟩, .int .i64 5] 56)) := ⟨_, Lib.hid rfl⟩
  have HBX : Hid (Below v6.heap.size v6 X) := Lib.hid (by rw [HX.out]; exact hz _ _)
  have HXC : Hid (Whole X M 56 #[.string sM1, .string sR, .int .i64 5]) := Lib.hid (by rw [HX.out]; exact Whole.newAt _ _ HM.out)
  have hfl : FewProps exLess := ⟨by decide, by decide⟩
  have hpl : ∀ p ∈ exLess, p.props = [] := by decide
  have HPX := Lib.hid (whole_belowM HP6.out HBX.out)
  have HD1 := Lib.hid (fun (n : ByteArray) (day : Int) (w : World) (hw : Below X.heap.size X w) => permitted_any (some ⟨a, 0, none⟩) exKinds 3 none [] 0 (some ⟨b, 0, none⟩) exLess 3 n day (by decide) (by decide) hfl w ((HK6.out.below stKnd HBX.out).below stKnd hw) IsL.nil (parts_of (whole_belowM HPX.out hw) hpl))
  have HD3 := Lib.hid (fun (n : ByteArray) (day : Int) (w : World) (hw : Below X.heap.size X w) => permitted_any (some ⟨a, 0, none⟩) exKinds 3 (some ⟨N + 1 + 1 + 1, 0, none⟩) exPair 1 (some ⟨b, 0, none⟩) exLess 3 n day (by decide) (by decide) hfl w ((HK6.out.below stKnd HBX.out).below stKnd hw) (subs_of (whole_belowM (whole_belowM HU36.out HBX.out) hw)) (parts_of (whole_belowM HPX.out hw) hpl))
  have HE := Lib.hid (fun (p r : ByteArray) (day : Int) (w : World) (hw : Below X.heap.size X w) => exempt_any p r day (some ⟨M, 0, none⟩) [⟨sM1, sR, 5⟩] 1 (by decide) w (con_of (whole_belowM HXC.out hw)))
  have c0 := (whole_belowM HU06.out HBX.out).cell 0
  have c1 := (whole_belowM HU16.out HBX.out).cell 0
  have l0 := (whole_belowM HU06.out HBX.out).lt
  have l1 := (whole_belowM HU16.out HBX.out).lt
  clear hfl hpl z16 f16 hg6 d1 hbN
  go_wp2_with (first
    | (with_reducible show wpList _ _ _ (Oper.mk _ (Op.load 24 _) _ _ _ _ :: _) _ _; refine Hid.out ?_))
  refine Lib.hid ?_
  rw [← HM.out, ← HX.out]
  go_wp2_with fail
  have q6 := HD3.out sM1 9 X (Below.refl _ _)
  rw [p6] at q6
  refine q6.mono ?_
  rintro e x1 ⟨rfl, hb1⟩
  have HX1 := Lib.hid hb1
  clear hb1 q6
  have d0 := (cellB HX1.out l0).trans c0
  have d1 := (cellB HX1.out l1).trans c1
  go_wp2_with fail
  have q7 := HD1.out sV1 0 x1 HX1.out
  rw [p7] at q7
  refine q7.mono ?_
  rintro e x2 ⟨rfl, hb2⟩
  have HX2 := Lib.hid (below_step HX1.out hb2)
  clear hb2 q7 d0 d1
  go_wp2_with fail
  have r1 := HE.out sM1 sR 5 x2 HX2.out
  rw [e1] at r1
  refine r1.mono ?_
  rintro e x3 ⟨rfl, hb3⟩
  have HX3 := Lib.hid (below_step HX2.out hb3)
  clear hb3 r1
  go_wp2_with fail
  have r2 := HE.out sM1 sR 6 x3 HX3.out
  rw [e2] at r2
  refine r2.mono ?_
  rintro e x4 ⟨rfl, hb4⟩
  have HX4 := Lib.hid (below_step HX3.out hb4)
  clear hb4 r2
  go_wp2_with fail
  have r3 := HE.out sM2 sR 5 x4 HX4.out
  rw [e3] at r3
  refine r3.mono ?_
  rintro e x5 ⟨rfl, hb5⟩
  have HX5 := Lib.hid (below_step HX4.out hb5)
  clear hb5 r3
  go_wp2_with fail
  go_ret
  exact ⟨rfl, below_step HB6v.out (below_step HBX.out HX5.out)⟩
end Go.Proofs.Ytapjnbofhdljfaa
