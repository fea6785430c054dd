/- The walk of SignSound. -/
import Derived.Test.YtfnbdjjobndgfaaDoorSgnBinds
namespace Go.Proofs.YtfnbdjjobndgfaaDoor
open Go.RowKit

set_option maxRecDepth 100000 in
set_option maxHeartbeats 8000000 in
theorem sound_any (sec : ByteArray) (hs : sec.size ≤ 140737488351232) (x : Int) (hx0 : 0 ≤ x) (hx1 : x ≤ 255) (msg : ByteArray) (hm : msg.size ≤ 140737488351232) (idx : Int) (so po : Option Addr) (c1 c2 : Nat) (sig path : List ByteArray) (W : World) (hl : SealFine W idx so po c1 c2 sig path) (ht : Tab W) :
    Calls Tryd.prog 5 #[.string sec, .int .u8 x, .string msg, .agg #[.int .i64 idx, .slice so sig.length c1, .slice po path.length c2]] W fun e W' => e = .returned (.bool true) ∧ Below W.heap.size W W' := by
  obtain ⟨i1, hi1, hy0, hy1, hy2⟩ := info_parts info_str
  have HT := Lib.hid ht
  have HH : Hid (∀ X, Below W.heap.size W X → Calls Tryd.prog 10 #[] X fun e w' => e = .returned (.bool true) ∧ Below X.heap.size X w') := Lib.hid fun X hX => head_any X (ht.below hX)
  have HSh := Lib.hid (short2 sec msg hs hm)
  obtain ⟨b1, Hb1⟩ : ∃ b, Hid (b = (decide (sec.size ≤ 300) && decide (msg.size ≤ 300))) := ⟨_, Lib.hid rfl⟩
  rw [← Hb1.out] at HSh
  have HFw : Hid (∀ X, Below W.heap.size W X → Calls Tryd.prog 12 #[.agg #[.int .i64 idx, .slice so sig.length c1, .slice po path.length c2]] X (FewPost X sig path)) := Lib.hid fun X hX =>
    few_any idx so po c1 c2 sig path hl.z1 hl.z2 X (hl.is1.below hX) (hl.is2.below hX)
  have HS1 : Hid (IsStrs W so sig ∧ IsStrs W po path) := Lib.hid ⟨hl.is1, hl.is2⟩
  obtain ⟨a, rfl⟩ : ∃ a : Nat, x = a := ⟨x.toNat, by omega⟩
  obtain ⟨h, Hh⟩ : ∃ h, Hid (h = a % 3) := ⟨_, Lib.hid rfl⟩
  have hm4 : ((a : Int) % 3) = (h : Int) := by rw [Hh.out]; omega
  have hh3 : h ≤ 2 := by rw [Hh.out]; omega
  obtain ⟨n, Hn⟩ : ∃ n, Hid (n = sig.length) := ⟨_, Lib.hid rfl⟩
  obtain ⟨p, Hp⟩ : ∃ n, Hid (n = path.length) := ⟨_, Lib.hid rfl⟩
  have HM : Hid (msg.size ≤ 140737488351232) := Lib.hid hm
  rw [← Hn.out, ← Hp.out] at HFw ⊢
  clear hl ht hs hm
  go_enter Tryd.func5, Tryd.ntmps5
  go_wp2_with fail
  have hB0 : Below W.heap.size W (W.alloc (.cells #[.int .i64 idx, .slice so n c1, .slice po p c2] 24)) := (Below.refl _ _).alloc (Nat.le_refl _) _
  refine (HH.out _ hB0).mono ?_
  rintro e w1 ⟨rfl, hb⟩
  have HB1 := Lib.hid (below_step hB0 hb)
  have HA := Lib.hid (show Whole w1 W.heap.size 24 #[.int .i64 idx, .slice so n c1, .slice po p c2] from (hb.block _ (Whole.new _ _ _).lt).trans (Whole.new _ _ _))
  clear hb hB0
  go_wp2_with fail
  refine (HSh.out w1).mono ?_
  rintro e _ ⟨rfl, rfl⟩
  obtain ⟨W2, HW2⟩ : ∃ x, Hid (x = w1.alloc (.cells #[.string sec, .string msg] 9)) := ⟨_, Lib.hid rfl⟩
  have HB12 : Hid (Below w1.heap.size w1 W2) := Lib.hid (by rw [HW2.out]; exact (Below.refl _ _).alloc (Nat.le_refl _) _)
  have HB2 : Hid (Below W.heap.size W W2) := Lib.hid (below_step HB1.out HB12.out)
  rw [← HW2.out]
  obtain ⟨A, HAq⟩ : ∃ x, Hid (x = W.heap.size) := ⟨_, Lib.hid rfl⟩
  have HA1 : Hid (Whole w1 A 24 #[.int .i64 idx, .slice so n c1, .slice po p c2]) := Lib.hid (by rw [HAq.out]; exact HA.out)
  rw [← HAq.out]
  clear HA HW2
  cases b1 with
  | false =>
    go_wp2_with fail
    go_ret
    exact ⟨rfl, HB2.out⟩
  | true =>
    have hs3 : sec.size ≤ 300 := by
      have h := Hb1.out.symm
      rw [Bool.and_eq_true] at h
      exact of_decide_eq_true h.1
    clear Hb1
    obtain ⟨k0, k1, k2⟩ := seal_cells HB12.out HA1.out
    go_wp2_with fail
    refine (HFw.out _ HB2.out).mono ?_
    rintro e w3 ⟨b2, rfl, hb2, hb⟩
    have HF := Lib.hid hb2
    have HB3 := Lib.hid (below_step HB2.out hb)
    have HB13 := Lib.hid (below_step HB12.out hb)
    clear hb hb2 k0 k1 k2
    cases b2 with
    | false =>
      go_wp2_with fail
      go_ret
      exact ⟨rfl, HB3.out⟩
    | true =>
      have hf : FewS sig path := HF.out rfl
      obtain ⟨pub, Hpub⟩ : ∃ x, Hid (x = Sgn.rootV sec h) := ⟨_, Lib.hid rfl⟩
      obtain ⟨v, Hv⟩ : ∃ x, Hid (x = Sgn.verifyB pub msg idx sig path) := ⟨_, Lib.hid rfl⟩
      have HP : Hid (∀ X, Below W.heap.size W X → Calls Tryd.prog 13 #[.string sec, .int .i64 h] X fun e w' => e = .returned (.tuple #[.string pub, .int .i64 0]) ∧ Below X.heap.size X w') := Lib.hid fun X hX => by
        rw [Hpub.out]; exact public_good sec hs3 h (by omega) X (HT.out.below hX)
      have HVr : Hid (∀ X, Below W.heap.size W X → Calls Tryd.prog 18 #[.string pub, .string msg, .agg #[.int .i64 idx, .slice so n c1, .slice po p c2]] X fun e w' => e = .returned (.bool v) ∧ Below X.heap.size X w') := Lib.hid fun X hX => by
        rw [Hv.out, Hn.out, Hp.out]
        exact verify_any pub msg HM.out idx so po c1 c2 sig path (by have := hf.1; omega) (by have := hf.2.1; omega) (fun s hs => by have := hf.2.2.1 s hs; omega) (fun s hs => by have := hf.2.2.2 s hs; omega) X (HT.out.below hX) (HS1.out.1.below hX) (HS1.out.2.below hX)
      have HSB : Hid (∃ i0 e0 sg pt, sg.length ≤ 1000 ∧ pt.length ≤ 1000 ∧ (∀ X, Tab X → Calls Tryd.prog 15 #[.string sec, .int .i64 h, .int .i64 idx, .string msg] X (SgPost i0 e0 sg pt X)) ∧
          (v = true → ¬ (e0 = 0 ∧ sameS i0 idx sg pt sig path = true) → Coll (madeV sec h 15 ++ checkedV msg idx.toNat sig path))) := Lib.hid (by
        by_cases hj : idx < 0 ∨ ((2 ^ h : Nat) : Int) ≤ idx
        · refine ⟨0, 1, [], [], by simp, by simp, fun X _ => (sign_bad sec msg h idx (hj.elim (fun q => Or.inr (Or.inl q)) (fun q => Or.inr (Or.inr ⟨h, rfl, by omega, q⟩))) X).mono fun _ _ hh => noSeal_post hh, fun hv _ => ?_⟩
          obtain ⟨q18, q8, _, _, k, rfl, hkp, hr⟩ := verify_parts (Hv.out.symm.trans hv)
          rw [Hpub.out] at hr
          rw [Int.toNat_natCast]
          refine sound_coll q18 q8 hkp hr fun ⟨e1, _, _⟩ => ?_
          rw [e1] at hkp
          omega
        · obtain ⟨j, rfl⟩ : ∃ j : Nat, idx = j := ⟨idx.toNat, by omega⟩
          have hjh : j < 2 ^ h := by omega
          refine ⟨j, 0, Sgn.sigV sec j msg, Sgn.pathV sec h j, by rw [Sgn.sig_len]; decide, by rw [Sgn.path_len]; omega, fun X hX => ?_, fun hv hne => ?_⟩
          · refine (callsIn_wide.1 (sign_good sec msg hs3 HM.out h j (by omega) hjh X hX)).mono ?_
            rintro e w' ⟨⟨so, po, c1, c2, rfl, g1, g2, _, _⟩, hb⟩
            exact ⟨⟨so, po, c1, c2, by rw [Sgn.sig_len, Sgn.path_len], g1, g2⟩, hb⟩
          · obtain ⟨q18, q8, _, _, k, hk, hkp, hr⟩ := verify_parts (Hv.out.symm.trans hv)
            have hk := Int.ofNat.inj hk
            subst hk
            rw [Hpub.out] at hr
            rw [Int.toNat_natCast]
            refine sound_coll q18 q8 hkp hr fun ⟨e1, e2, e3⟩ => hne ⟨rfl, ?_⟩
            rw [e2, e3]
            unfold sameS
            rw [sameB_true rfl, sameB_true rfl]
            simp)
      obtain ⟨i0, e0, sg, pt, hl1, hl2, hg1, hcoll⟩ := HSB.out
      have HG1 := Lib.hid hg1
      have HCo := Lib.hid hcoll
      have HLl := Lib.hid (And.intro hl1 hl2)
      clear hg1 hcoll HSB hl1 hl2
      obtain ⟨k0, k1, k2⟩ := seal_cells HB13.out HA1.out
      go_wp2_with fail
      refine (HP.out _ HB3.out).mono ?_
      rintro e w4 ⟨rfl, hb⟩
      have HB4 := Lib.hid (below_step HB3.out hb)
      have HB14 := Lib.hid (below_step HB13.out hb)
      clear hb k0 k1 k2
      obtain ⟨k0, k1, k2⟩ := seal_cells HB14.out HA1.out
      go_wp2_with fail
      refine (HVr.out _ HB4.out).mono ?_
      rintro e w5 ⟨rfl, hb⟩
      have HB5 := Lib.hid (below_step HB4.out hb)
      have HB15 := Lib.hid (below_step HB14.out hb)
      clear hb k0 k1 k2
      cases v with
      | false =>
        go_wp2_with fail
        go_ret
        exact ⟨rfl, HB5.out⟩
      | true =>
        obtain ⟨q18, q8, z1, z2, j, rfl, hjp, -⟩ := verify_parts Hv.out.symm
        have hz16 : ∀ {l : List ByteArray}, (l.all fun s => Dig.isB s.data.toList) = true → ∀ s ∈ l, s.size = 16 := fun h s hs => (Sgn.isB_parts (List.all_eq_true.1 h s hs)).1
        have hj256 : j ≤ 256 := by have : 2 ^ path.length ≤ 2 ^ 8 := Nat.pow_le_pow_right (by decide) q8; omega
        have hn18 : n = 18 := by rw [Hn.out]; exact q18
        subst hn18
        obtain ⟨l1, Hl1⟩ : ∃ l, Hid (l = madeV sec h 15) := ⟨_, Lib.hid rfl⟩
        obtain ⟨l2, Hl2⟩ : ∃ l, Hid (l = checkedV msg j sig path) := ⟨_, Lib.hid rfl⟩
        obtain ⟨n1, Hn1⟩ : ∃ l, Hid (l = l1.length) := ⟨_, Lib.hid rfl⟩
        obtain ⟨n2, Hn2⟩ : ∃ l, Hid (l = l2.length) := ⟨_, Lib.hid rfl⟩
        have hn1 : n1 ≤ 10000 := by rw [Hn1.out, Hl1.out]; exact made_few sec hs3 h 15 (by omega) (by decide)
        have hn2 : n2 ≤ 10000 := by rw [Hn2.out, Hl2.out]; exact checked_few _ _ _ _ q8
        have hn20 : 0 < n2 := by rw [Hn2.out, Hl2.out]; unfold checkedV; simp; omega
        have HM1 : Hid (∀ X, Calls Tryd.prog 23 #[.string sec, .int .i64 h, .int .i64 15] X (RowPost n1 l1 X)) := Lib.hid fun X => by
          rw [Hn1.out, Hl1.out]; exact made_row sec hs3 h 15 (by omega) (by decide) (by decide) X
        have HM2 : Hid (∀ X, Below W.heap.size W X → Calls Tryd.prog 24 #[.string msg, .agg #[.int .i64 j, .slice so 18 c1, .slice po p c2]] X fun e w' => (∃ b o c, e = .returned (.slice (some ⟨b, o, none⟩) n2 c) ∧ ∀ (i : Nat) (u : Value), (strC l2)[i]? = some u → w'.cell? ((⟨b, o, none⟩ : Addr).add i) = some u) ∧ Below X.heap.size X w') := Lib.hid fun X hX => by
          rw [Hp.out]
          exact checked_row msg HM.out j so po c1 c2 sig path q18 q8 hj256 (hz16 z1) (hz16 z2) X (HS1.out.1.below hX) (HS1.out.2.below hX) l2 n2 Hl2.out Hn2.out
        have HShn : Hid (¬ (e0 = 0 ∧ sameS i0 j sg pt sig path = true) → ∀ X ao c, IsStrs X ao (l1 ++ l2) → Calls Tryd.prog 22 #[.slice ao (n1 + n2) c] X fun e w' => e = .returned (.bool true) ∧ Below X.heap.size X w') := Lib.hid fun hne X ao c hX => by
          have hlen : (l1 ++ l2).length = n1 + n2 := by rw [List.length_append, Hn1.out, Hn2.out]
          have := refShown_any ao (l1 ++ l2) c (by omega) (fun s hs => by
            rw [Hl1.out, Hl2.out] at hs
            rcases List.mem_append.1 hs with hs | hs
            · have := made_size hs3 (show h ≤ 8 by omega) s hs; omega
            · have := checked_size q18 (hz16 z1) (hz16 z2) s hs; omega) X hX
          rw [hlen] at this
          refine this.mono ?_
          rintro e w' ⟨b, rfl, hb, hB⟩
          have hc : Coll (l1 ++ l2) := by
            have := HCo.out rfl hne
            rw [Int.toNat_natCast] at this
            rw [Hl1.out, Hl2.out]
            exact this
          exact ⟨by rw [hb hc], hB⟩
        have HSame : Hid (∀ X a1 b1 c1' d1, Below W.heap.size W X → IsStrs X a1 sg → IsStrs X b1 pt → Calls Tryd.prog 17 #[.agg #[.int .i64 i0, .slice a1 sg.length c1', .slice b1 pt.length d1], .agg #[.int .i64 j, .slice so 18 c1, .slice po p c2]] X
            fun e w' => e = .returned (.bool (sameS i0 j sg pt sig path)) ∧ Below X.heap.size X w') := Lib.hid fun X a1 b1 c1' d1 hX g1 g2 => by
          have := same_any i0 j a1 b1 so po c1' d1 c1 c2 sg pt sig path ⟨HLl.out.1, HLl.out.2, by omega, by omega⟩ X g1 g2 (HS1.out.1.below hX) (HS1.out.2.below hX)
          rw [q18, ← Hp.out] at this
          exact this
        obtain ⟨m1, Hm1⟩ : ∃ n, Hid (n = sg.length) := ⟨_, Lib.hid rfl⟩
        obtain ⟨m2, Hm2⟩ : ∃ n, Hid (n = pt.length) := ⟨_, Lib.hid rfl⟩
        obtain ⟨sm, Hsm⟩ : ∃ b, Hid (b = sameS i0 j sg pt sig path) := ⟨_, Lib.hid rfl⟩
        rw [← Hm1.out, ← Hm2.out, ← Hsm.out] at HSame
        rw [← Hsm.out] at HShn
        clear q18 q8 z1 z2 hz16 hjp hj256 hf
        obtain ⟨k0, k1, k2⟩ := seal_cells HB15.out HA1.out
        go_wp2_with fail
        refine (HG1.out _ (HT.out.below HB5.out)).mono ?_
        rintro e w6 ⟨⟨a1, d1, x1, y1, rfl, g1, g2⟩, hb⟩
        have HB6 := Lib.hid (below_step HB5.out hb)
        have HB16 := Lib.hid (below_step HB15.out hb)
        have HX1 := Lib.hid (And.intro g1 g2)
        clear hb g1 g2 k0 k1 k2
        rw [← Hm1.out, ← Hm2.out]
        obtain ⟨W7, HW7⟩ : ∃ x, Hid (x = w6.alloc (.cells #[.int .i64 i0, .slice a1 m1 x1, .slice d1 m2 y1] 24)) := ⟨_, Lib.hid rfl⟩
        have HB67 : Hid (Below w6.heap.size w6 W7) := Lib.hid (by rw [HW7.out]; exact (Below.refl _ _).alloc (Nat.le_refl _) _)
        have HB17 := Lib.hid (below_step HB16.out HB67.out)
        have HB7 := Lib.hid (below_step HB6.out HB67.out)
        obtain ⟨k0, k1, k2⟩ := seal_cells HB16.out HA1.out
        have hA6 : A < w6.heap.size := lt_of_cell k0
        have nA : ¬ A = w6.heap.size := by omega
        by_cases he : e0 = 0
        · subst he
          cases sm with
          | true =>
            go_wp2_with fail
            rw [← HW7.out]
            refine (HSame.out W7 a1 d1 x1 y1 HB7.out (HX1.out.1.below HB67.out) (HX1.out.2.below HB67.out)).mono ?_
            rintro e w8 ⟨rfl, hb⟩
            have HB8 := Lib.hid (below_step HB7.out hb)
            clear hb
            go_wp2_with fail
            go_ret
            exact ⟨rfl, HB8.out⟩
          | false =>
            have HSn := Lib.hid (HShn.out (by simp))
            go_wp2_with fail
            rw [← HW7.out]
            refine (HSame.out W7 a1 d1 x1 y1 HB7.out (HX1.out.1.below HB67.out) (HX1.out.2.below HB67.out)).mono ?_
            rintro e w8 ⟨rfl, hb⟩
            have HB8 := Lib.hid (below_step HB7.out hb)
            have HB18 := Lib.hid (below_step HB17.out hb)
            clear hb k0 k1 k2 nA hA6
            go_wp2_with fail
            obtain ⟨wz, rfl⟩ : ∃ y, y = w8 := ⟨_, rfl⟩
            have HAz : Hid (Whole wz A 24 #[.int .i64 j, .slice so 18 c1, .slice po p c2]) := Lib.hid ((HB18.out.block _ HA1.out.lt).trans HA1.out)
            have HBz := HB8
            have hS0 : wz.cell? ⟨A, 0, none⟩ = some (.int .i64 j) ∧ wz.cell? ⟨A, 1, none⟩ = some (.slice so 18 c1) ∧ wz.cell? ⟨A, 2, none⟩ = some (.slice po p c2) := seal_cells (Below.refl _ _) HAz.out
            go_region_held_law (fun w' => w'.cell? ⟨A, 0, none⟩ = some (.int .i64 j) ∧ w'.cell? ⟨A, 1, none⟩ = some (.slice so 18 c1) ∧ w'.cell? ⟨A, 2, none⟩ = some (.slice po p c2)) (first | exact hS4 | exact hS3 | exact hS2 | exact hS1 | exact hS0) (first
              | (have hq := HX2; refine step_append_guard _ rfl (.tmp 65) (.tmp 68) 22 rfl wz.heap.size 9 i1 (.string ⟨#[]⟩) 1 16 Tryd.underlying22 hi1 hy0 hy1 hy2 rfl (by decide) (.slice (some ⟨ga, 0, none⟩) n1 ca) n1 (strC l1) (by simp [Act.eval]) HR1.out ⟨gb, ob, none⟩ n2 cb (strC l2) (by simp [Act.eval]) HLn.out HNc.out (strC_one _) hn20 (by unfold maxLen; omega) (by omega) HX2.out.size ?_; intro g' cap' w10 hown hgrow; have HX3 := Lib.hid ((HX2.out.grown hgrow HX2.out.size (fun j e => (HR1.out.lt j e).1))); have HSt := Lib.hid (strs_of_row (l := l1 ++ l2) (by rw [strC_append]; exact hown) HLa.out); have hS3 := seal_cells HX3.out HAz.out; clear hown hgrow)
              | (have hq := HX1'; go_simp; go_at_call 24; refine (HM2.out X1 (below_step HBz.out HX1'.out)).mono ?_; rintro e X2 ⟨⟨gb, ob, cb, rfl, hr2⟩, hb2⟩; have HX2 : Hid (Below wz.heap.size wz X2) := Lib.hid (below_step HX1'.out hb2); have HR1 := Lib.hid (owns_grown HRa.out hb2); have HNc := Lib.hid hr2; have HLn : Hid ((strC l2).length = n2 * 1) := Lib.hid (by rw [Hn2.out]; simp [strC]); have HLa : Hid (n1 + n2 = (l1 ++ l2).length) := Lib.hid (by rw [List.length_append, Hn1.out, Hn2.out]); have hS2 := seal_cells HX2.out HAz.out; clear hr2 hb2)
              | (go_simp; go_at_call 23; refine (HM1.out _).mono ?_; rintro e X1 ⟨ga, ca, rfl, hr1, hb1⟩; have HX1' : Hid (Below wz.heap.size wz X1) := Lib.hid ((Below.refl _ _).drew.trans hb1); have HRa : Hid (X1.ownsRow wz.heap.size 9 1 (.slice (some ⟨ga, 0, none⟩) n1 ca) n1 (strC l1)) := Lib.hid hr1; have hS1 := seal_cells HX1'.out HAz.out; clear hr1 hb1)
              | (have hq := HX3; go_simp; go_at_call 22; refine (HSn.out _ _ _ HSt.out).mono ?_; rintro e X4 ⟨rfl, hb4⟩; have HX4 := Lib.hid (HBz.out.trans ((below_step HX3.out hb4).mono HBz.out.size)); have hS4 := seal_cells (below_step HX3.out hb4) HAz.out; clear hb4))
            all_goals
              go_wp2_with fail
              go_ret
              exact ⟨rfl, HX4.out⟩
        · have HSn := Lib.hid (HShn.out (fun hh => he hh.1))
          have d1' : (e0 == 0) = false := by simp; exact he
          have d2' : decide (e0 = 0) = false := decide_eq_false he
          clear he
          go_wp2_with fail
          rw [← HW7.out]
          clear k0 k1 k2 nA hA6
          obtain ⟨wz, rfl⟩ : ∃ y, y = W7 := ⟨_, rfl⟩
          have HAz : Hid (Whole wz A 24 #[.int .i64 j, .slice so 18 c1, .slice po p c2]) := Lib.hid ((HB17.out.block _ HA1.out.lt).trans HA1.out)
          have HBz := HB7
          have hS0 : wz.cell? ⟨A, 0, none⟩ = some (.int .i64 j) ∧ wz.cell? ⟨A, 1, none⟩ = some (.slice so 18 c1) ∧ wz.cell? ⟨A, 2, none⟩ = some (.slice po p c2) := seal_cells (Below.refl _ _) HAz.out
          go_region_held_law (fun w' => w'.cell? ⟨A, 0, none⟩ = some (.int .i64 j) ∧ w'.cell? ⟨A, 1, none⟩ = some (.slice so 18 c1) ∧ w'.cell? ⟨A, 2, none⟩ = some (.slice po p c2)) (first | exact hS4 | exact hS3 | exact hS2 | exact hS1 | exact hS0) (first
            | (have hq := HX2; refine step_append_guard _ rfl (.tmp 65) (.tmp 68) 22 rfl wz.heap.size 9 i1 (.string ⟨#[]⟩) 1 16 Tryd.underlying22 hi1 hy0 hy1 hy2 rfl (by decide) (.slice (some ⟨ga, 0, none⟩) n1 ca) n1 (strC l1) (by simp [Act.eval]) HR1.out ⟨gb, ob, none⟩ n2 cb (strC l2) (by simp [Act.eval]) HLn.out HNc.out (strC_one _) hn20 (by unfold maxLen; omega) (by omega) HX2.out.size ?_; intro g' cap' w10 hown hgrow; have HX3 := Lib.hid ((HX2.out.grown hgrow HX2.out.size (fun j e => (HR1.out.lt j e).1))); have HSt := Lib.hid (strs_of_row (l := l1 ++ l2) (by rw [strC_append]; exact hown) HLa.out); have hS3 := seal_cells HX3.out HAz.out; clear hown hgrow)
            | (have hq := HX1'; go_simp; go_at_call 24; refine (HM2.out X1 (below_step HBz.out HX1'.out)).mono ?_; rintro e X2 ⟨⟨gb, ob, cb, rfl, hr2⟩, hb2⟩; have HX2 : Hid (Below wz.heap.size wz X2) := Lib.hid (below_step HX1'.out hb2); have HR1 := Lib.hid (owns_grown HRa.out hb2); have HNc := Lib.hid hr2; have HLn : Hid ((strC l2).length = n2 * 1) := Lib.hid (by rw [Hn2.out]; simp [strC]); have HLa : Hid (n1 + n2 = (l1 ++ l2).length) := Lib.hid (by rw [List.length_append, Hn1.out, Hn2.out]); have hS2 := seal_cells HX2.out HAz.out; clear hr2 hb2)
            | (go_simp; go_at_call 23; refine (HM1.out _).mono ?_; rintro e X1 ⟨ga, ca, rfl, hr1, hb1⟩; have HX1' : Hid (Below wz.heap.size wz X1) := Lib.hid ((Below.refl _ _).drew.trans hb1); have HRa : Hid (X1.ownsRow wz.heap.size 9 1 (.slice (some ⟨ga, 0, none⟩) n1 ca) n1 (strC l1)) := Lib.hid hr1; have hS1 := seal_cells HX1'.out HAz.out; clear hr1 hb1)
            | (have hq := HX3; go_simp; go_at_call 22; refine (HSn.out _ _ _ HSt.out).mono ?_; rintro e X4 ⟨rfl, hb4⟩; have HX4 := Lib.hid (HBz.out.trans ((below_step HX3.out hb4).mono HBz.out.size)); have hS4 := seal_cells (below_step HX3.out hb4) HAz.out; clear hb4))
          all_goals
            go_wp2_with fail
            go_ret
            exact ⟨rfl, HX4.out⟩

end Go.Proofs.YtfnbdjjobndgfaaDoor
