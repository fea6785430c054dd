/- EventDays. -/
import Derived.Test.YtbnofoncapaabaaGreatDoorEvtHead
import Derived.Test.YtbnofoncapaabaaGreatDoorEvtShort
import Derived.Test.YtbnofoncapaabaaGreatDoorNewMany
namespace Go.Proofs.YtbnofoncapaabaaGreatDoor
open Go.RowKit
open Evt

def dy4V (N0 : Nat) (x : Ev) : Nat → Value → Prop
  | 0, v => v = .agg (evC x).toArray
  | 1, v => v = .agg (evC x).toArray
  | _, _ => True
def dy7 (g8 g9 : Nat) (xa xb : Ev) (va : Bool) (NM : List (List UInt8)) : Nat → Value → World → Prop
  | 0, v, _ => v = .bool true
  | 1, v, _ => v = .bool true
  | 2, v, _ => v = .agg (evC xa).toArray
  | 3, v, _ => v = .bool va
  | 4, v, _ => v = .agg (evC xb).toArray
  | 5, v, _ => v = .bool va
  | 6, v, _ => v = .bool true
  | 7, v, _ => v = .bool true
  | 8, v, _ => v = .bool true
  | 9, v, _ => v = .agg (evC xa).toArray
  | 10, v, w => IsS w v NM
  | 11, v, _ => v = .agg (evC xb).toArray
  | 12, v, w => IsS w v NM
  | 13, v, _ => v = .bool true
  | 14, v, _ => v = .bool true
  | 15, v, _ => v = .bool true
  | _, _, _ => True
theorem dy7_below {g8 g9 : Nat} {xa xb : Ev} {va : Bool} {NM : List (List UInt8)} : ∀ j u w w', dy7 g8 g9 xa xb va NM j u w → Below w.heap.size w w' → dy7 g8 g9 xa xb va NM j u w'
  | 0, _, _, _, h, _ => h
  | 1, _, _, _, h, _ => h
  | 2, _, _, _, h, _ => h
  | 3, _, _, _, h, _ => h
  | 4, _, _, _, h, _ => h
  | 5, _, _, _, h, _ => h
  | 6, _, _, _, h, _ => h
  | 7, _, _, _, h, _ => h
  | 8, _, _, _, h, _ => h
  | 9, _, _, _, h, _ => h
  | 10, _, _, _, h, hb => h.below hb
  | 11, _, _, _, h, _ => h
  | 12, _, _, _, h, hb => h.below hb
  | 13, _, _, _, h, _ => h
  | 14, _, _, _, h, _ => h
  | 15, _, _, _, h, _ => h
  | _ + 16, _, _, _, _, _ => trivial
namespace Evt
theorem sz_day {x : Ev} (hx : Sz x) {q : Int} (h0 : 0 ≤ q) (h1 : q ≤ 1000000) : Sz { x with day := q } := by
  obtain ⟨h0', h1', h2, h3, h4, h5, h6, h7, h8, h9, ga, gb, gc, gd⟩ := hx
  exact ⟨h0', sI (by show _ ≤ q ∧ q ≤ _; omega), h2, h3, h4, h5, h6, h7, h8, h9, ga, gb, gc, gd⟩
theorem valid_day (x : Ev) {a b : Int} (ha : 0 ≤ a ∧ a ≤ 40000) (hb : 0 ≤ b ∧ b ≤ 40000) : valid { x with day := a } = valid { x with day := b } := by
  unfold valid
  dsimp only
  rw [decide_eq_false (show ¬ a < 0 by omega), decide_eq_false (show ¬ b < 0 by omega), decide_eq_false (show ¬ 40000 < a by omega), decide_eq_false (show ¬ 40000 < b by omega)]
  rfl
theorem names_day (x : Ev) {a b : Int} (ha : 0 ≤ a ∧ a ≤ 40000) (hb : 0 ≤ b ∧ b ≤ 40000) : namesE { x with day := a } = namesE { x with day := b } := by
  unfold namesE
  rw [valid_day x ha hb]
end Evt
theorem rEqlBoolT (d : Option Tmp) (t : TypeId) (pos : String) (af : Array Edge) (g : Option (Nat × Bool)) (A : Act) (w : World) (x y : Operand) (a : Bool) (hx : A.eval x = .bool a) (hy : A.eval y = .bool a) : (execOp A.eval ⟨d, .binOp .eql 4 x y 4, t, pos, af, g⟩).run Tryz.prog w = .ok (.value (.bool true)) w := by
  cases a
  all_goals
    unfold execOp
    simp only [hx, hy]
    go_simp
set_option maxRecDepth 100000 in
set_option maxHeartbeats 8000000 in
theorem days_any (x : Ev) (hx : Sz x) (one : Int) (h10 : 0 ≤ one) (h11 : one ≤ 65535) (two : Int) (h20 : 0 ≤ two) (h21 : two ≤ 65535) (W : World) (hT : WTab W) (ht : Tab W) (hE : Errs W) :
    Calls Tryz.prog 6 #[.agg (evC x).toArray, .int .u16 one, .int .u16 two] W fun e w' => e = .returned (.bool true) ∧ Below W.heap.size W w' := by
  obtain ⟨V, HV⟩ : ∃ w, Hid (w = W.alloc (.cells (evC x).toArray 27)) := ⟨_, Lib.hid rfl⟩
  obtain ⟨N0, HN⟩ : ∃ N, Hid (N = W.heap.size) := ⟨_, Lib.hid rfl⟩
  have hB : Below W.heap.size W V := by rw [HV.out]; exact (Below.refl _ _).alloc (Nat.le_refl _) _
  have HW : Hid (Whole V N0 27 (evC x).toArray) := Lib.hid (by rw [HV.out, HN.out]; exact Whole.new _ _ _)
  have HH := Lib.hid (head09_any V (hT.below hB) (ht.below hB) (hE.below hB))
  have HB := Lib.hid hB
  have HSp := Lib.hid ev_size
  have HSx := Lib.hid hx
  have HSh := Lib.hid (fun w => short_any x w)
  obtain ⟨sh, Hsh⟩ : ∃ b, Hid (b = shortE x) := ⟨_, Lib.hid rfl⟩
  rw [← Hsh.out] at HSh
  clear hT ht hE hB hx
  go_enter Tryz.func6, Tryz.ntmps6
  go_wp2_with fail
  rw [← HV.out, ← HN.out]
  refine HH.out.mono ?_
  rintro e w1 ⟨rfl, hb⟩
  have HB1 := Lib.hid (below_step HB.out hb)
  have HW1 := Lib.hid (whole_belowM HW.out hb)
  clear hb
  go_wp2_with (first
    | (with_reducible show wpList _ _ _ (Oper.mk _ (Op.load 27 _) _ _ _ _ :: _) _ _; refine wpList_load_mid rfl _ _ rfl N0 0 rfl (evC x) _ (Whole.range HW1.out) Tryz.underlying27 rfl (HSp.out.trans rfl) ?_))
  refine (HSh.out w1).mono ?_
  rintro e w3 ⟨rfl, hb⟩
  have HB3 := Lib.hid (below_step HB1.out hb)
  have HW3 := Lib.hid (whole_belowM HW1.out hb)
  clear hb
  cases sh with
  | false =>
    go_wp2_with fail
    go_ret
    exact ⟨rfl, HB3.out⟩
  | true =>
  have HRx : Hid (∀ w, Below w3.heap.size w3 w → w.rangeAt N0 0 (evC x)) := Lib.hid (fun w hw => (whole_belowM HW3.out hw).range)
  go_wp2_with fail
  apply wp_region_entE 40 (nfK [(2, 4), (3, 5)]) (nfP w3 27 (evC zero).toArray (evC x).toArray [(2, 4), (3, 5)]) (dy4V N0 x) nfP_cg (by kernel_rfl) (by kernel_rfl) rfl nfP_zero
  · intro i o ho e w A' hT hei hwn hsee haway
    have q3 : A'.eval (.tmp 3) = .pointer (some ⟨N0, 0, none⟩) := (haway 3 (by kernel_rfl)).trans rfl
    have HLw : Below w3.heap.size w3 w := nf_below hT
    have hi : i < 6 := by have := (List.getElem?_eq_some_iff.1 ho).1; simpa using this
    have hi : i = 0 ∨ i = 1 ∨ i = 2 ∨ i = 3 ∨ i = 4 ∨ i = 5 := by omega
    rcases hi with rfl | rfl | rfl | rfl | rfl | rfl
    all_goals
      simp only [List.getElem?_cons_succ, List.getElem?_cons_zero, Option.some.injEq] at ho
      subst ho
    · exact wp_of_runL (rLoad _ _ _ _ _ A' w 27 (.tmp 3) N0 0 (evC x) _ (HRx.out w HLw) Tryz.underlying27 rfl (by kernel_rfl) q3) ⟨_, rfl, rfl, LeavesE.plain nfP_below (Below.refl _ _) (by decide)⟩
    · exact wp_of_runL (rLoad _ _ _ _ _ A' w 27 (.tmp 3) N0 0 (evC x) _ (HRx.out w HLw) Tryz.underlying27 rfl (by kernel_rfl) q3) ⟨_, rfl, rfl, LeavesE.plain nfP_below (Below.refl _ _) (by decide)⟩
    · exact wp_of_runL (run_allocEv _ _ _ _ _ A' w) ⟨_, rfl, trivial, nf_leaves_alloc (by decide) hT (by kernel_rfl) (ia := 2) (is := 4) (by decide) (hT.none_of hei (by kernel_rfl))⟩
    · exact wp_of_runL (run_allocEv _ _ _ _ _ A' w) ⟨_, rfl, trivial, nf_leaves_alloc (by decide) hT (by kernel_rfl) (ia := 3) (is := 5) (by decide) (hT.none_of hei (by kernel_rfl))⟩
    · have f2 : e 2 = some (A'.eval (.tmp 8)) := (hsee 8 2 (by kernel_rfl) (by kernel_rfl)).1
      have q15 : A'.eval (.tmp 15) = .agg (evC x).toArray := (hsee 15 0 (by kernel_rfl) (by kernel_rfl)).2 (want_free (by kernel_rfl))
      obtain ⟨g, h3, h4, -, h5⟩ := nf_ptr hT (by kernel_rfl) (p := (2, 4)) (by decide) f2
      obtain ⟨w', hr, hz, hg, hw'⟩ := rStore (P := Tryz.prog) _ _ _ _ _ A' w 27 (.tmp 8) (.tmp 15) g _ _ (evC x).toArray h3 q15 (h5 hei) (by kernel_rfl) rfl (by simp [evC, Value.oneCell'])
      exact wp_of_skipL hr ⟨_, rfl, trivial, nf_leaves_store (by decide) hT (by kernel_rfl) (ia := 2) (is := 4) (by decide) (h3 ▸ f2) h4 hg hw'⟩
    · have f3 : e 3 = some (A'.eval (.tmp 9)) := (hsee 9 3 (by kernel_rfl) (by kernel_rfl)).1
      have q16 : A'.eval (.tmp 16) = .agg (evC x).toArray := (hsee 16 1 (by kernel_rfl) (by kernel_rfl)).2 (want_free (by kernel_rfl))
      obtain ⟨g, h3, h4, -, h5⟩ := nf_ptr hT (by kernel_rfl) (p := (3, 5)) (by decide) f3
      obtain ⟨w', hr, hz, hg, hw'⟩ := rStore (P := Tryz.prog) _ _ _ _ _ A' w 27 (.tmp 9) (.tmp 16) g _ _ (evC x).toArray h3 q16 (h5 hei) (by kernel_rfl) rfl (by simp [evC, Value.oneCell'])
      exact wp_of_skipL hr ⟨_, rfl, trivial, nf_leaves_store (by decide) hT (by kernel_rfl) (ia := 3) (is := 5) (by decide) (h3 ▸ f3) h4 hg hw'⟩
  intro e wz hT hall
  obtain ⟨v0, e0⟩ := hall 0 (by decide)
  obtain ⟨v1, e1⟩ := hall 1 (by decide)
  obtain ⟨v2, e2⟩ := hall 2 (by decide)
  obtain ⟨v3, e3⟩ := hall 3 (by decide)
  obtain ⟨v4, e4⟩ := hall 4 (by decide)
  obtain ⟨v5, e5⟩ := hall 5 (by decide)
  have hFB := nf_below hT
  have hF2 := nf_fact hT (f := .sto 2 4) (nf_in (Or.inr (Or.inr (Or.inl ⟨(2, 4), by decide, rfl⟩)))) (by simp [NF.key]) (by simp [NF.key, e2, e4]) (by kernel_rfl)
  simp only [NF.holds, valOf_some e2] at hF2
  have hF3 := nf_fact hT (f := .sto 3 5) (nf_in (Or.inr (Or.inr (Or.inl ⟨(3, 5), by decide, rfl⟩)))) (by simp [NF.key]) (by simp [NF.key, e3, e5]) (by kernel_rfl)
  simp only [NF.holds, valOf_some e3] at hF3
  have hFD := nf_fact hT (f := .dis 2 3) (nf_in (Or.inr (Or.inr (Or.inr ⟨(2, 4), by decide, (3, 5), by decide, by decide, rfl⟩)))) (by simp [NF.key]) (by simp [NF.key, e2, e3]) (by kernel_rfl)
  simp only [NF.holds, valOf_some e2, valOf_some e3] at hFD
  simp only [List.length_cons, List.length_nil, Nat.reduceAdd, fillTo, e0, e1, e2, e3, e4, e5, dstOf]
  clear e0 e1 e2 e3 e4 e5 hT hall
  have HFB := Lib.hid hFB
  have HF2 := Lib.hid hF2
  have HF3 := Lib.hid hF3
  have HFD := Lib.hid hFD
  clear hFB hF2 hF3 hFD
  go_simp
  obtain ⟨g8, rfl, hg8, hw8⟩ := HF2.out
  obtain ⟨g9, rfl, hg9, hw9⟩ := HF3.out
  have HNe : Hid (g8 ≠ g9) := Lib.hid (by
    obtain ⟨a, b, h1, h2, h3⟩ := HFD.out
    cases h1; cases h2
    exact h3)
  have HG8 := Lib.hid hg8
  have HG9 := Lib.hid hg9
  have HW8 := Lib.hid hw8
  have HW9 := Lib.hid hw9
  have HBz := Lib.hid (below_step HB3.out HFB.out)
  clear hg8 hg9 hw8 hw9
  obtain ⟨z8, Hz8⟩ : ∃ z, Hid (z = x.day) := ⟨_, Lib.hid rfl⟩
  have k8 : wz.cell? ⟨g8, 1, none⟩ = some (.int .i64 z8) := by rw [Hz8.out]; exact HW8.out.cell 1
  have f8 : wz.frozen? ⟨g8, 1, none⟩ = false := HW8.out.frozen 1
  have k9 : wz.cell? ⟨g9, 1, none⟩ = some (.int .i64 z8) := by rw [Hz8.out]; exact HW9.out.cell 1
  have f9 : wz.frozen? ⟨g9, 1, none⟩ = false := HW9.out.frozen 1
  have hne : g8 ≠ g9 := HNe.out
  have hne' : g9 ≠ g8 := fun h => HNe.out h.symm
  have hq1 : 0 ≤ one % 40001 ∧ one % 40001 ≤ 40000 := by omega
  have hq2 : 0 ≤ two % 40001 ∧ two % 40001 ≤ 40000 := by omega
  obtain ⟨xa, Hxa⟩ : ∃ y : Ev, Hid (y = { x with day := one % 40001 }) := ⟨_, Lib.hid rfl⟩
  obtain ⟨xb, Hxb⟩ : ∃ y : Ev, Hid (y = { x with day := two % 40001 }) := ⟨_, Lib.hid rfl⟩
  have HSa : Hid (Sz xa) := Lib.hid (by rw [Hxa.out]; exact sz_day HSx.out hq1.1 (by omega))
  have HSb : Hid (Sz xb) := Lib.hid (by rw [Hxb.out]; exact sz_day HSx.out hq2.1 (by omega))
  obtain ⟨va, Hva⟩ : ∃ b, Hid (b = Evt.valid xa) := ⟨_, Lib.hid rfl⟩
  obtain ⟨NM, HNM⟩ : ∃ b, Hid (b = namesE xa) := ⟨_, Lib.hid rfl⟩
  have HNl : Hid (NM.length ≤ 1000000) := Lib.hid (by rw [HNM.out]; have := namesE_len xa; omega)
  have HVa := Lib.hid (evValid_any xa HSa.out)
  have HVb := Lib.hid (evValid_any xb HSb.out)
  rw [← Hva.out] at HVa
  rw [show Evt.valid xb = va by rw [Hva.out, Hxa.out, Hxb.out]; exact valid_day x hq2 hq1] at HVb
  have HNa : Hid (∀ w, Calls Tryz.prog 12 #[.agg (evC xa).toArray] w fun e w' => ∃ v, e = .returned v ∧ IsS w' v NM ∧ Below w.heap.size w w') := Lib.hid (fun w => (evNames_any xa HSa.out w).mono fun e w' ⟨v, h1, h2, h3⟩ => ⟨v, h1, by rw [HNM.out]; exact IsS.owns h2, h3⟩)
  have HNb : Hid (∀ w, Calls Tryz.prog 12 #[.agg (evC xb).toArray] w fun e w' => ∃ v, e = .returned v ∧ IsS w' v NM ∧ Below w.heap.size w w') := Lib.hid (fun w => (evNames_any xb HSb.out w).mono fun e w' ⟨v, h1, h2, h3⟩ => ⟨v, h1, by rw [HNM.out, Hxa.out, names_day x hq1 hq2, ← Hxb.out]; exact IsS.owns h2, h3⟩)
  obtain ⟨wY, HwY⟩ : ∃ w, Hid (w = (wz.setCell ⟨g8, 1, none⟩ (.int .i64 (one % 40001))).setCell ⟨g9, 1, none⟩ (.int .i64 (two % 40001))) := ⟨_, Lib.hid rfl⟩
  have HWa : Hid (Whole wY g8 27 (evC xa).toArray) := Lib.hid (by
    rw [HwY.out, Hxa.out]
    exact Whole.far (whole_setM HW8.out 1 _ rfl) HNe.out _)
  have HWb : Hid (Whole wY g9 27 (evC xb).toArray) := Lib.hid (by
    rw [HwY.out, Hxb.out]
    exact whole_setM (Whole.far HW9.out (fun h => HNe.out h.symm) _) 1 _ rfl)
  have HBY : Hid (Below W.heap.size W wY) := Lib.hid (by
    rw [HwY.out]
    have h1 : wz.grownBy (wz.setCell ⟨g8, 1, none⟩ (.int .i64 (one % 40001))) (some g8) := ⟨rfl, rfl, rfl, by simp, fun j _ hj => Below.heap_setCell _ _ _ _ (fun e => hj (by rw [e]))⟩
    have h2 : (wz.setCell ⟨g8, 1, none⟩ (.int .i64 (one % 40001))).grownBy ((wz.setCell ⟨g8, 1, none⟩ (.int .i64 (one % 40001))).setCell ⟨g9, 1, none⟩ (.int .i64 (two % 40001))) (some g9) := ⟨rfl, rfl, rfl, by simp, fun j _ hj => Below.heap_setCell _ _ _ _ (fun e => hj (by rw [e]))⟩
    have hb1 := HBz.out.grown h1 HBz.out.size (fun y e => by cases e; exact Nat.le_trans HB3.out.size HG8.out)
    exact hb1.grown h2 hb1.size (fun y e => by cases e; exact Nat.le_trans HB3.out.size HG9.out))
  have HRa : Hid (∀ w, Below wY.heap.size wY w → w.rangeAt g8 0 (evC xa)) := Lib.hid (fun w hw => (whole_belowM HWa.out hw).range)
  have HRb : Hid (∀ w, Below wY.heap.size wY w → w.rangeAt g9 0 (evC xb)) := Lib.hid (fun w hw => (whole_belowM HWb.out hw).range)
  clear hq1 hq2
  go_wp2_with fail
  rw [← HwY.out]
  apply wp_region_monoG 40 (dy7 g8 g9 xa xb va NM) dy7_below (by kernel_rfl) (by kernel_rfl) rfl
  · intro i o g b ho hgd u w hu
    have hi : i < 16 := by have := (List.getElem?_eq_some_iff.1 ho).1; simpa using this
    have hi : i = 0 ∨ i = 1 ∨ i = 2 ∨ i = 3 ∨ i = 4 ∨ i = 5 ∨ i = 6 ∨ i = 7 ∨ i = 8 ∨ i = 9 ∨ i = 10 ∨ i = 11 ∨ i = 12 ∨ i = 13 ∨ i = 14 ∨ i = 15 := by omega
    rcases hi with rfl | rfl | rfl | rfl | rfl | rfl | rfl | rfl | rfl | rfl | rfl | rfl | rfl | rfl | rfl | rfl
    all_goals
      simp only [List.getElem?_cons_succ, List.getElem?_cons_zero, Option.some.injEq] at ho
      subst ho
      cases hgd
      all_goals exact hu
  · intro i o ho w A' hlow hsee haway
    have q7 : A'.eval (.tmp 7) = .bool true := (haway 7 (by kernel_rfl)).trans rfl
    have q8 : A'.eval (.tmp 8) = .pointer (some ⟨g8, 0, none⟩) := (haway 8 (by kernel_rfl)).trans rfl
    have q9 : A'.eval (.tmp 9) = .pointer (some ⟨g9, 0, none⟩) := (haway 9 (by kernel_rfl)).trans rfl
    have hi : i < 16 := by have := (List.getElem?_eq_some_iff.1 ho).1; simpa using this
    have hi : i = 0 ∨ i = 1 ∨ i = 2 ∨ i = 3 ∨ i = 4 ∨ i = 5 ∨ i = 6 ∨ i = 7 ∨ i = 8 ∨ i = 9 ∨ i = 10 ∨ i = 11 ∨ i = 12 ∨ i = 13 ∨ i = 14 ∨ i = 15 := by omega
    rcases hi with rfl | rfl | rfl | rfl | rfl | rfl | rfl | rfl | rfl | rfl | rfl | rfl | rfl | rfl | rfl | rfl
    all_goals
      simp only [List.getElem?_cons_succ, List.getElem?_cons_zero, Option.some.injEq] at ho
      subst ho
    · exact wp_of_runL (rMove _ _ _ _ _ A' w (.tmp 7) _ q7) ⟨_, rfl, Below.refl _ _, rfl⟩
    · have q25 : A'.eval (.tmp 25) = .bool true := hsee 25 0 (by kernel_rfl) (by kernel_rfl)
      exact wp_of_runL (rMove _ _ _ _ _ A' w (.tmp 25) _ q25) ⟨_, rfl, Below.refl _ _, rfl⟩
    · exact wp_of_runL (rLoad _ _ _ _ _ A' w 27 (.tmp 8) g8 0 (evC xa) _ (HRa.out w hlow) Tryz.underlying27 rfl (by kernel_rfl) q8) ⟨_, rfl, Below.refl _ _, rfl⟩
    · have q27 : A'.eval (.tmp 27) = .agg (evC xa).toArray := hsee 27 2 (by kernel_rfl) (by kernel_rfl)
      refine wp_of_callL _ _ _ _ _ _ _ 10 _ [.tmp 27] [.agg (evC xa).toArray] (by simp [q27]) (by kernel_rfl) ((HVa.out w).mono ?_)
      rintro e w2 ⟨rfl, hb2⟩
      exact ⟨_, rfl, _, rfl, hb2, rfl⟩
    · exact wp_of_runL (rLoad _ _ _ _ _ A' w 27 (.tmp 9) g9 0 (evC xb) _ (HRb.out w hlow) Tryz.underlying27 rfl (by kernel_rfl) q9) ⟨_, rfl, Below.refl _ _, rfl⟩
    · have q29 : A'.eval (.tmp 29) = .agg (evC xb).toArray := hsee 29 4 (by kernel_rfl) (by kernel_rfl)
      refine wp_of_callL _ _ _ _ _ _ _ 10 _ [.tmp 29] [.agg (evC xb).toArray] (by simp [q29]) (by kernel_rfl) ((HVb.out w).mono ?_)
      rintro e w2 ⟨rfl, hb2⟩
      exact ⟨_, rfl, _, rfl, hb2, rfl⟩
    · have q28 : A'.eval (.tmp 28) = .bool va := hsee 28 3 (by kernel_rfl) (by kernel_rfl)
      have q30 : A'.eval (.tmp 30) = .bool va := hsee 30 5 (by kernel_rfl) (by kernel_rfl)
      exact wp_of_runL (rEqlBoolT _ _ _ _ _ A' w (.tmp 28) (.tmp 30) va q28 q30) ⟨_, rfl, Below.refl _ _, rfl⟩
    · have q26 : A'.eval (.tmp 26) = .bool true := hsee 26 1 (by kernel_rfl) (by kernel_rfl)
      have q31 : A'.eval (.tmp 31) = .bool true := hsee 31 6 (by kernel_rfl) (by kernel_rfl)
      exact wp_of_runL (rPick _ _ _ _ _ A' w (.tmp 26) (.tmp 31) (.const (Value.bool false)) _ _ q26 (by rw [if_pos rfl]; exact q31)) ⟨_, rfl, Below.refl _ _, rfl⟩
    · have q32 : A'.eval (.tmp 32) = .bool true := hsee 32 7 (by kernel_rfl) (by kernel_rfl)
      exact wp_of_runL (rMove _ _ _ _ _ A' w (.tmp 32) _ q32) ⟨_, rfl, Below.refl _ _, rfl⟩
    · exact wp_of_runL (rLoad _ _ _ _ _ A' w 27 (.tmp 8) g8 0 (evC xa) _ (HRa.out w hlow) Tryz.underlying27 rfl (by kernel_rfl) q8) ⟨_, rfl, Below.refl _ _, rfl⟩
    · have q34 : A'.eval (.tmp 34) = .agg (evC xa).toArray := hsee 34 9 (by kernel_rfl) (by kernel_rfl)
      refine wp_of_callL _ _ _ _ _ _ _ 12 _ [.tmp 34] [.agg (evC xa).toArray] (by simp [q34]) (by kernel_rfl) ((HNa.out w).mono ?_)
      rintro e w2 ⟨u, rfl, hS, hb2⟩
      exact ⟨_, rfl, _, rfl, hb2, hS⟩
    · exact wp_of_runL (rLoad _ _ _ _ _ A' w 27 (.tmp 9) g9 0 (evC xb) _ (HRb.out w hlow) Tryz.underlying27 rfl (by kernel_rfl) q9) ⟨_, rfl, Below.refl _ _, rfl⟩
    · have q36 : A'.eval (.tmp 36) = .agg (evC xb).toArray := hsee 36 11 (by kernel_rfl) (by kernel_rfl)
      refine wp_of_callL _ _ _ _ _ _ _ 12 _ [.tmp 36] [.agg (evC xb).toArray] (by simp [q36]) (by kernel_rfl) ((HNb.out w).mono ?_)
      rintro e w2 ⟨u, rfl, hS, hb2⟩
      exact ⟨_, rfl, _, rfl, hb2, hS⟩
    · have p35 : IsS w (A'.eval (.tmp 35)) NM := hsee 35 10 (by kernel_rfl) (by kernel_rfl)
      have p37 : IsS w (A'.eval (.tmp 37)) NM := hsee 37 12 (by kernel_rfl) (by kernel_rfl)
      refine wp_of_callL _ _ _ _ _ _ _ 15 _ [.tmp 35, .tmp 37] [A'.eval (.tmp 35), A'.eval (.tmp 37)] rfl (by kernel_rfl) ((strs09_any NM NM HNl.out HNl.out _ _ w p35 p37).mono ?_)
      rintro e w2 ⟨rfl, hb2⟩
      exact ⟨_, rfl, _, rfl, hb2, by rw [strsB_iff.2 rfl]; rfl⟩
    · have q33 : A'.eval (.tmp 33) = .bool true := hsee 33 8 (by kernel_rfl) (by kernel_rfl)
      have q38 : A'.eval (.tmp 38) = .bool true := hsee 38 13 (by kernel_rfl) (by kernel_rfl)
      exact wp_of_runL (rPick _ _ _ _ _ A' w (.tmp 33) (.tmp 38) (.const (Value.bool false)) _ _ q33 (by rw [if_pos rfl]; exact q38)) ⟨_, rfl, Below.refl _ _, rfl⟩
    · have q39 : A'.eval (.tmp 39) = .bool true := hsee 39 14 (by kernel_rfl) (by kernel_rfl)
      exact wp_of_runL (rAssign _ _ _ _ _ A' w (.tmp 39) _ q39) ⟨_, rfl, Below.refl _ _, rfl⟩
  intro e wz hlow hall
  obtain ⟨v0, e0, -⟩ := hall 0 (by decide)
  obtain ⟨v1, e1, -⟩ := hall 1 (by decide)
  obtain ⟨v2, e2, -⟩ := hall 2 (by decide)
  obtain ⟨v3, e3, -⟩ := hall 3 (by decide)
  obtain ⟨v4, e4, -⟩ := hall 4 (by decide)
  obtain ⟨v5, e5, -⟩ := hall 5 (by decide)
  obtain ⟨v6, e6, -⟩ := hall 6 (by decide)
  obtain ⟨v7, e7, -⟩ := hall 7 (by decide)
  obtain ⟨v8, e8, -⟩ := hall 8 (by decide)
  obtain ⟨v9, e9, -⟩ := hall 9 (by decide)
  obtain ⟨v10, e10, -⟩ := hall 10 (by decide)
  obtain ⟨v11, e11, -⟩ := hall 11 (by decide)
  obtain ⟨v12, e12, -⟩ := hall 12 (by decide)
  obtain ⟨v13, e13, -⟩ := hall 13 (by decide)
  obtain ⟨v14, e14, -⟩ := hall 14 (by decide)
  obtain ⟨v15, e15, h15⟩ := hall 15 (by decide)
  have h15' : v15 = .bool true := h15
  subst h15'
  clear h15
  have HLow := Lib.hid hlow
  simp only [List.length_cons, List.length_nil, Nat.reduceAdd, fillTo, e0, e1, e2, e3, e4, e5, e6, e7, e8, e9, e10, e11, e12, e13, e14, e15, dstOf]
  clear e0 e1 e2 e3 e4 e5 e6 e7 e8 e9 e10 e11 e12 e13 e14 e15 hlow hall
  go_simp
  go_wp2_with fail
  go_ret
  exact ⟨rfl, below_step HBY.out HLow.out⟩
end Go.Proofs.YtbnofoncapaabaaGreatDoor
