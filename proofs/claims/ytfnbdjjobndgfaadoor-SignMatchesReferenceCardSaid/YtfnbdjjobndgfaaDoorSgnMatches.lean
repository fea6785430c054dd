/- The walk of SignMatchesReference. -/
import Derived.Test.YtfnbdjjobndgfaaDoorSgnForm
import Derived.Test.YtfnbdjjobndgfaaDoorSgnRefSign
import Derived.Test.YtfnbdjjobndgfaaDoorSgnRefVerify
namespace Go.Proofs.YtfnbdjjobndgfaaDoor
open Go.RowKit

theorem short3 (a b c : ByteArray) (ha : a.size ≤ 140737488351232) (hb : b.size ≤ 140737488351232) (hc : c.size ≤ 140737488351232) (X : World) :
    Calls Tryd.prog 11 #[.slice (some ⟨X.heap.size, 0, none⟩) 3 3] (X.alloc (.cells #[.string a, .string b, .string c] 9)) fun e w' => e = .returned (.bool (decide (a.size ≤ 300) && (decide (b.size ≤ 300) && decide (c.size ≤ 300)))) ∧ X.alloc (.cells #[.string a, .string b, .string c] 9) = w' := by
  have := short_any (some ⟨X.heap.size, 0, none⟩) [a, b, c] 3 (by simp) (fun s hs => by
    simp only [List.mem_cons, List.not_mem_nil, or_false] at hs
    rcases hs with rfl | rfl | rfl <;> omega) (X.alloc (.cells #[.string a, .string b, .string c] 9)) (strs3 (by rw [cell_alloc, if_pos rfl] <;> rfl) (by rw [cell_alloc, if_pos rfl] <;> rfl) (by rw [cell_alloc, if_pos rfl] <;> rfl))
  simpa using this
/-- What both Signs answer. -/
def SgPost (i0 e0 : Int) (sg pt : List ByteArray) (w : World) (e : Ending) (w' : World) : Prop :=
  (∃ so po c1 c2, e = .returned (.tuple #[.agg #[.int .i64 i0, .slice so sg.length c1, .slice po pt.length c2], .int .i64 e0]) ∧ IsStrs w' so sg ∧ IsStrs w' po pt) ∧ Below w.heap.size w w'
theorem pub_both (sec : ByteArray) (hs : sec.size ≤ 300) (h : Int) : ∃ pv pe, (∀ X, Tab X → Calls Tryd.prog 13 #[.string sec, .int .i64 h] X fun e w' => e = .returned (.tuple #[.string pv, .int .i64 pe]) ∧ Below X.heap.size X w') ∧
    ∀ X, Calls Tryd.prog 14 #[.string sec, .int .i64 h] X fun e w' => e = .returned (.tuple #[.string pv, .int .i64 pe]) ∧ Below X.heap.size X w' := by
  by_cases hh : (decide (0 ≤ h) && decide (h ≤ 8)) = false
  · exact ⟨_, _, fun X _ => public_bad sec h hh X, fun X => refPublic_bad sec h hh X⟩
  · rw [Bool.not_eq_false, Bool.and_eq_true] at hh
    obtain ⟨k, rfl⟩ : ∃ k : Nat, h = k := ⟨h.toNat, by have := of_decide_eq_true hh.1; omega⟩
    have hk : k ≤ 8 := by have := of_decide_eq_true hh.2; omega
    exact ⟨_, _, fun X hX => public_good sec hs k hk X hX, fun X => refPublic_good sec hs k hk X⟩
theorem noSeal_post {w : World} {e : Ending} {w' : World} (h : e = .returned noSeal ∧ Below w.heap.size w w') : SgPost 0 1 [] [] w e w' := ⟨⟨none, none, 0, 0, h.1, Or.inl rfl, Or.inl rfl⟩, h.2⟩
theorem sign_both (sec msg : ByteArray) (hs : sec.size ≤ 300) (hm : msg.size ≤ 140737488351232) (h idx : Int) : ∃ i0 e0 sg pt, sg.length ≤ 1000 ∧ pt.length ≤ 1000 ∧ (∀ X, Tab X → Calls Tryd.prog 15 #[.string sec, .int .i64 h, .int .i64 idx, .string msg] X (SgPost i0 e0 sg pt X)) ∧
    ∀ X, Calls Tryd.prog 16 #[.string sec, .int .i64 h, .int .i64 idx, .string msg] X (SgPost i0 e0 sg pt X) := by
  by_cases hb : (decide (0 ≤ h) && decide (h ≤ 8)) = false ∨ idx < 0 ∨ ∃ k : Nat, h = k ∧ k ≤ 8 ∧ ((2 ^ k : Nat) : Int) ≤ idx
  · exact ⟨0, 1, [], [], by simp, by simp, fun X _ => (sign_bad sec msg h idx hb X).mono fun _ _ hh => noSeal_post hh, fun X => (refSign_bad sec msg h idx hb X).mono fun _ _ hh => noSeal_post hh⟩
  · have h1 : ¬ (decide (0 ≤ h) && decide (h ≤ 8)) = false := fun hh => hb (Or.inl hh)
    rw [Bool.not_eq_false, Bool.and_eq_true] at h1
    obtain ⟨k, rfl⟩ : ∃ k : Nat, h = k := ⟨h.toNat, by have := of_decide_eq_true h1.1; omega⟩
    have hk : k ≤ 8 := by have := of_decide_eq_true h1.2; omega
    have h2 : ¬ idx < 0 := fun hh => hb (Or.inr (Or.inl hh))
    obtain ⟨j, rfl⟩ : ∃ j : Nat, idx = j := ⟨idx.toNat, by omega⟩
    have hj : j < 2 ^ k := by
      rcases Nat.lt_or_ge j (2 ^ k) with hh | hh
      · exact hh
      · exact absurd (Or.inr (Or.inr ⟨k, rfl, hk, by omega⟩)) hb
    refine ⟨j, 0, Sgn.sigV sec j msg, Sgn.pathV sec k j, by rw [Sgn.sig_len]; decide, by rw [Sgn.path_len]; omega, fun X hX => ?_, fun X => ?_⟩
    · refine (callsIn_wide.1 (sign_good sec msg hs hm k j hk hj X hX)).mono ?_
      rintro e w' ⟨⟨so, po, c1, c2, rfl, g1, g2, _, _⟩, hb⟩
      exact ⟨⟨so, po, c1, c2, by rw [Sgn.sig_len, Sgn.path_len], g1, g2⟩, hb⟩
    · refine (refSign_good sec msg hs hm k j hk hj X).mono ?_
      rintro e w' ⟨⟨so, po, c1, c2, rfl, g1, g2⟩, hb⟩
      exact ⟨⟨so, po, c1, c2, by rw [Sgn.sig_len, Sgn.path_len], g1, g2⟩, hb⟩

set_option maxRecDepth 100000 in
set_option maxHeartbeats 8000000 in
theorem matches_any (sec : ByteArray) (hs : sec.size ≤ 140737488351232) (h idx : Int) (msg : ByteArray) (hm : msg.size ≤ 140737488351232) (pub : ByteArray) (hp : pub.size ≤ 140737488351232) (ix : Int) (so po : Option Addr) (c1 c2 : Nat) (sig path : List ByteArray) (W : World) (hl : SealFine W ix so po c1 c2 sig path) (ht : Tab W) :
    Calls Tryd.prog 3 #[.string sec, .int .i64 h, .int .i64 idx, .string msg, .string pub, .agg #[.int .i64 ix, .slice so sig.length c1, .slice po path.length c2]] W fun e W' => e = .returned (.bool true) ∧ Below W.heap.size W W' := by
  have HT := Lib.hid ht
  have HH : Hid (∀ X, Below W.heap.size W X → Calls Tryd.prog 10 #[] X fun e w' => e = .returned (.bool true) ∧ Below X.heap.size X w') := Lib.hid fun X hX => head_any X (ht.below hX)
  have HSh := Lib.hid (short3 sec msg pub hs hm hp)
  obtain ⟨b1, Hb1⟩ : ∃ b, Hid (b = (decide (sec.size ≤ 300) && (decide (msg.size ≤ 300) && decide (pub.size ≤ 300)))) := ⟨_, Lib.hid rfl⟩
  rw [← Hb1.out] at HSh
  have HFw : Hid (∀ X, Below W.heap.size W X → Calls Tryd.prog 12 #[.agg #[.int .i64 ix, .slice so sig.length c1, .slice po path.length c2]] X (FewPost X sig path)) := Lib.hid fun X hX =>
    few_any ix so po c1 c2 sig path hl.z1 hl.z2 X (hl.is1.below hX) (hl.is2.below hX)
  have HVr : Hid (∀ p, FewS sig path → ∀ X, Below W.heap.size W X → Calls Tryd.prog 18 #[.string p, .string msg, .agg #[.int .i64 ix, .slice so sig.length c1, .slice po path.length c2]] X fun e w' => e = .returned (.bool (Sgn.verifyB p msg ix sig path)) ∧ Below X.heap.size X w') := Lib.hid fun p hf X hX =>
    verify_any p msg hm ix so po c1 c2 sig path (by have := hf.1; omega) (by have := hf.2.1; omega) (fun s hs => by have := hf.2.2.1 s hs; omega) (fun s hs => by have := hf.2.2.2 s hs; omega) X (ht.below hX) (hl.is1.below hX) (hl.is2.below hX)
  have HRr : Hid (∀ p, FewS sig path → ∀ X, Below W.heap.size W X → Calls Tryd.prog 19 #[.string p, .string msg, .agg #[.int .i64 ix, .slice so sig.length c1, .slice po path.length c2]] X fun e w' => e = .returned (.bool (Sgn.verifyB p msg ix sig path)) ∧ Below X.heap.size X w') := Lib.hid fun p hf X hX =>
    refVerify_any p msg hm ix so po c1 c2 sig path (fun s hs => by have := hf.2.2.1 s hs; omega) (fun s hs => by have := hf.2.2.2 s hs; omega) X (hl.is1.below hX) (hl.is2.below hX)
  have HSB : Hid (sec.size ≤ 300 → ∃ i0 e0 sg pt, sg.length ≤ 1000 ∧ pt.length ≤ 1000 ∧ (∀ X, Tab X → Calls Tryd.prog 15 #[.string sec, .int .i64 h, .int .i64 idx, .string msg] X (SgPost i0 e0 sg pt X)) ∧
    ∀ X, Calls Tryd.prog 16 #[.string sec, .int .i64 h, .int .i64 idx, .string msg] X (SgPost i0 e0 sg pt X)) := Lib.hid fun h3 => sign_both sec msg h3 hm h idx
  obtain ⟨n, Hn⟩ : ∃ n, Hid (n = sig.length) := ⟨_, Lib.hid rfl⟩
  obtain ⟨p, Hp⟩ : ∃ n, Hid (n = path.length) := ⟨_, Lib.hid rfl⟩
  rw [← Hn.out, ← Hp.out] at HFw HVr HRr ⊢
  clear hl ht hp hm hs
  go_enter Tryd.func3, Tryd.ntmps3
  go_wp2_with fail
  have hB0 : Below W.heap.size W (W.alloc (.cells #[.int .i64 ix, .slice so n c1, .slice po p c2] 24)) := (Below.refl _ _).alloc (Nat.le_refl _) _
  refine (HH.out _ hB0).mono ?_
  rintro e w1 ⟨rfl, hb⟩
  have HB1 := Lib.hid (below_step hB0 hb)
  have HA := Lib.hid (show Whole w1 W.heap.size 24 #[.int .i64 ix, .slice so n c1, .slice po p c2] from (hb.block _ (Whole.new _ _ _).lt).trans (Whole.new _ _ _))
  clear hb hB0
  go_wp2_with fail
  refine (HSh.out w1).mono ?_
  rintro e _ ⟨rfl, rfl⟩
  obtain ⟨W2, HW2⟩ : ∃ x, Hid (x = w1.alloc (.cells #[.string sec, .string msg, .string pub] 9)) := ⟨_, Lib.hid rfl⟩
  have HB12 : Hid (Below w1.heap.size w1 W2) := Lib.hid (by rw [HW2.out]; exact (Below.refl _ _).alloc (Nat.le_refl _) _)
  have HB2 : Hid (Below W.heap.size W W2) := Lib.hid (below_step HB1.out HB12.out)
  rw [← HW2.out]
  cases b1 with
  | false =>
    go_wp2_with fail
    go_ret
    exact ⟨rfl, HB2.out⟩
  | true =>
    have hs3 : sec.size ≤ 300 := by
      have h := Hb1.out.symm
      rw [Bool.and_eq_true] at h
      exact of_decide_eq_true h.1
    obtain ⟨pv, pe, hp1, hp2⟩ := pub_both sec hs3 h
    obtain ⟨i0, e0, sg, pt, hl1, hl2, hg1, hg2⟩ := HSB.out hs3
    have HP1 := Lib.hid hp1
    have HP2 := Lib.hid hp2
    have HG1 := Lib.hid hg1
    have HG2 := Lib.hid hg2
    have HSame : Hid (∀ X a1 b1 a2 b2 c1 d1 c2 d2, IsStrs X a1 sg → IsStrs X b1 pt → IsStrs X a2 sg → IsStrs X b2 pt → Calls Tryd.prog 17 #[.agg #[.int .i64 i0, .slice a1 sg.length c1, .slice b1 pt.length d1], .agg #[.int .i64 i0, .slice a2 sg.length c2, .slice b2 pt.length d2]] X
        fun e w' => e = .returned (.bool true) ∧ Below X.heap.size X w') := Lib.hid fun X a1 b1 a2 b2 c1 d1 c2 d2 g1 g2 g3 g4 => by
      have := same_any i0 i0 a1 b1 a2 b2 c1 d1 c2 d2 sg pt sg pt ⟨hl1, hl2, hl1, hl2⟩ X g1 g2 g3 g4
      rw [show sameS i0 i0 sg pt sg pt = true by unfold sameS; rw [sameB_true rfl, sameB_true rfl]; simp] at this
      exact this
    clear hp1 hp2 hg1 hg2 hl1 hl2 Hb1 HSB hs3
    obtain ⟨k0, k1, k2⟩ := seal_cells HB12.out HA.out
    go_wp2_with fail
    refine (HFw.out _ HB2.out).mono ?_
    rintro e w3 ⟨b2, rfl, hb2, hb⟩
    have HF := Lib.hid hb2
    have HB3 := Lib.hid (below_step HB2.out hb)
    have HB13 := Lib.hid (below_step HB12.out hb)
    clear hb hb2 k0 k1 k2
    cases b2 with
    | false =>
      go_wp2_with fail
      go_ret
      exact ⟨rfl, HB3.out⟩
    | true =>
      by_cases hmid : 3 < h ∧ h ≤ 8
      · have r1 : decide (3 < h) = true := decide_eq_true hmid.1
        have r2 : decide (h ≤ 8) = true := decide_eq_true hmid.2
        clear hmid
        go_wp2_with fail
        go_ret
        exact ⟨rfl, HB3.out⟩
      · have hcs : decide (3 < h) = false ∨ (decide (3 < h) = true ∧ decide (h ≤ 8) = false) := by
          by_cases q : 3 < h
          · exact Or.inr ⟨decide_eq_true q, decide_eq_false fun q2 => hmid ⟨q, q2⟩⟩
          · exact Or.inl (decide_eq_false q)
        clear hmid
        have HFw' := HF.out rfl
        have HF' := Lib.hid HFw'
        clear HFw'
        obtain ⟨v1, Hv1⟩ : ∃ v, Hid (v = Sgn.verifyB pub msg ix sig path) := ⟨_, Lib.hid rfl⟩
        obtain ⟨v2, Hv2⟩ : ∃ v, Hid (v = Sgn.verifyB pv msg ix sig path) := ⟨_, Lib.hid rfl⟩
        rcases hcs with r1 | ⟨r1, r2⟩
        all_goals
          go_wp2_with fail
          refine (HP1.out _ (HT.out.below HB3.out)).mono ?_
          rintro e w4 ⟨rfl, hb⟩
          have HB4 := Lib.hid (below_step HB3.out hb)
          have HB14 := Lib.hid (below_step HB13.out hb)
          clear hb
          go_wp2_with fail
          refine (HP2.out _).mono ?_
          rintro e w5 ⟨rfl, hb⟩
          have HB5 := Lib.hid (below_step HB4.out hb)
          have HB15 := Lib.hid (below_step HB14.out hb)
          clear hb
          go_wp2_with fail
          refine (HG1.out _ (HT.out.below HB5.out)).mono ?_
          rintro e w6 ⟨⟨a1, d1, x1, y1, rfl, g1, g2⟩, hb⟩
          have HB6 := Lib.hid (below_step HB5.out hb)
          have HB16 := Lib.hid (below_step HB15.out hb)
          have HX1 := Lib.hid (And.intro g1 g2)
          clear hb g1 g2
          go_wp2_with fail
          obtain ⟨m1, Hm1⟩ : ∃ n, Hid (n = sg.length) := ⟨_, Lib.hid rfl⟩
          obtain ⟨m2, Hm2⟩ : ∃ n, Hid (n = pt.length) := ⟨_, Lib.hid rfl⟩
          rw [← Hm1.out, ← Hm2.out]
          have HSame2 := HSame
          rw [← Hm1.out, ← Hm2.out] at HSame2
          obtain ⟨W7, HW7⟩ : ∃ x, Hid (x = w6.alloc (.cells #[.int .i64 i0, .slice a1 m1 x1, .slice d1 m2 y1] 24)) := ⟨_, Lib.hid rfl⟩
          have HB67 : Hid (Below w6.heap.size w6 W7) := Lib.hid (by rw [HW7.out]; exact (Below.refl _ _).alloc (Nat.le_refl _) _)
          have HA7 := Lib.hid (show Whole W7 w6.heap.size 24 #[.int .i64 i0, .slice a1 m1 x1, .slice d1 m2 y1] by rw [HW7.out]; exact Whole.new _ _ _)
          rw [← HW7.out]
          refine (HG2.out _).mono ?_
          rintro e w8 ⟨⟨a2, d2, x2, y2, rfl, g1, g2⟩, hb⟩
          have HB68 := Lib.hid (below_step HB67.out hb)
          have HB78 := Lib.hid hb
          have HX2 := Lib.hid (And.intro g1 g2)
          have v8 : Whole w8 w6.heap.size 24 #[.int .i64 i0, .slice a1 m1 x1, .slice d1 m2 y1] := (hb.block _ HA7.out.lt).trans HA7.out
          obtain ⟨A1, HAq1⟩ : ∃ x, Hid (x = w6.heap.size) := ⟨_, Lib.hid rfl⟩
          rw [← HAq1.out] at v8 ⊢
          rw [← Hm1.out, ← Hm2.out]
          have n3 : A1 < w8.heap.size := v8.lt
          have n1 : ¬ A1 = w8.heap.size := by omega
          have k0 := v8.cell 0
          have k1 := v8.cell 1
          have k2 := v8.cell 2
          simp only [List.getElem?_toArray, List.getElem?_cons_zero, List.getElem?_cons_succ] at k0 k1 k2
          clear hb g1 g2 v8
          go_wp2_with fail
          obtain ⟨W9, HW9⟩ : ∃ x, Hid (x = w8.alloc (.cells #[.int .i64 i0, .slice a2 m1 x2, .slice d2 m2 y2] 24)) := ⟨_, Lib.hid rfl⟩
          have HB89 : Hid (Below w8.heap.size w8 W9) := Lib.hid (by rw [HW9.out]; exact (Below.refl _ _).alloc (Nat.le_refl _) _)
          have HB69 := Lib.hid (below_step HB68.out HB89.out)
          rw [← HW9.out]
          refine (HSame2.out W9 a1 d1 a2 d2 x1 y1 x2 y2 (HX1.out.1.below HB69.out) (HX1.out.2.below HB69.out) (HX2.out.1.below HB89.out) (HX2.out.2.below HB89.out)).mono ?_
          rintro e w10 ⟨rfl, hb⟩
          have HB10 := Lib.hid (below_step (below_step HB6.out HB69.out) hb)
          have HB110 := Lib.hid (below_step (below_step HB16.out HB69.out) hb)
          clear hb k0 k1 k2 n1 n3
          have e0 : ∀ X : Grown w10, X.w.cell? ⟨W.heap.size, 0, none⟩ = some (.int .i64 ix) := fun X => (seal_cells (below_step HB110.out X.below) HA.out).1
          have e1 : ∀ X : Grown w10, X.w.cell? ⟨W.heap.size, 1, none⟩ = some (.slice so n c1) := fun X => (seal_cells (below_step HB110.out X.below) HA.out).2.1
          have e2 : ∀ X : Grown w10, X.w.cell? ⟨W.heap.size, 2, none⟩ = some (.slice po p c2) := fun X => (seal_cells (below_step HB110.out X.below) HA.out).2.2
          have HV1 : Hid (∀ X : Grown w10, Calls Tryd.prog 18 #[.string pub, .string msg, .agg #[.int .i64 ix, .slice so n c1, .slice po p c2]] X.w fun e w' => e = .returned (.bool v1) ∧ Below X.w.heap.size X.w w') := Lib.hid fun X => by
            rw [Hv1.out]; exact HVr.out pub HF'.out X.w (below_step HB10.out X.below)
          have HV2 : Hid (∀ X : Grown w10, Calls Tryd.prog 18 #[.string pv, .string msg, .agg #[.int .i64 ix, .slice so n c1, .slice po p c2]] X.w fun e w' => e = .returned (.bool v2) ∧ Below X.w.heap.size X.w w') := Lib.hid fun X => by
            rw [Hv2.out]; exact HVr.out pv HF'.out X.w (below_step HB10.out X.below)
          have HR1 : Hid (∀ X : Grown w10, Calls Tryd.prog 19 #[.string pub, .string msg, .agg #[.int .i64 ix, .slice so n c1, .slice po p c2]] X.w fun e w' => e = .returned (.bool v1) ∧ Below X.w.heap.size X.w w') := Lib.hid fun X => by
            rw [Hv1.out]; exact HRr.out pub HF'.out X.w (below_step HB10.out X.below)
          have HR2 : Hid (∀ X : Grown w10, Calls Tryd.prog 19 #[.string pv, .string msg, .agg #[.int .i64 ix, .slice so n c1, .slice po p c2]] X.w fun e w' => e = .returned (.bool v2) ∧ Below X.w.heap.size X.w w') := Lib.hid fun X => by
            rw [Hv2.out]; exact HRr.out pv HF'.out X.w (below_step HB10.out X.below)
          go_wp2_with fail
          refine wp_region_grown (by kernel_rfl) (by kernel_rfl) ?_
          iterate 8 (go_big_quiet_step (fail))
          go_big_quiet_step (exact grown_of (HV1.out _))
          iterate 3 (go_big_quiet_step (fail))
          go_big_quiet_step (exact grown_of (HR1.out _))
          iterate 6 (go_big_quiet_step (fail))
          go_big_quiet_step (exact grown_of (HV2.out _))
          iterate 3 (go_big_quiet_step (fail))
          go_big_quiet_step (exact grown_of (HR2.out _))
          repeat (go_big_quiet_step (fail))
          refine wpQuiet_nil ?_
          rintro _ ⟨X, rfl⟩
          have HWe := Lib.hid (below_step HB10.out X.below)
          clear e0 e1 e2
          generalize X.w = W11 at HWe ⊢
          go_wp2_with fail
          go_ret
          exact ⟨ret_bool (by simp), HWe.out⟩

end Go.Proofs.YtfnbdjjobndgfaaDoor
