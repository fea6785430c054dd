/- The walk of SignBinds. -/
import Derived.Test.YtfnbdjjobndgfaaDoorSgnSecrets
import Derived.Deep.RegionHeldLaw
namespace Go.Proofs.YtfnbdjjobndgfaaDoor
open Go.RowKit

theorem checked_row (m : ByteArray) (hm : m.size ≤ 140737488351232) (j : Nat) (so po : Option Addr) (c1 c2 : Nat) (sig path : List ByteArray) (h18 : sig.length = 18) (h8 : path.length ≤ 8) (hj : j ≤ 256)
    (hz1 : ∀ s ∈ sig, s.size = 16) (hz2 : ∀ s ∈ path, s.size = 16) (W : World) (h1 : IsStrs W so sig) (h2 : IsStrs W po path) (l : List ByteArray) (n : Nat) (hl : l = checkedV m j sig path) (hn : n = l.length) :
    Calls Tryd.prog 24 #[.string m, .agg #[.int .i64 j, .slice so 18 c1, .slice po path.length c2]] W fun e w' => (∃ b o c, e = .returned (.slice (some ⟨b, o, none⟩) n c) ∧ ∀ (i : Nat) (u : Value), (strC l)[i]? = some u → w'.cell? ((⟨b, o, none⟩ : Addr).add i) = some u) ∧ Below W.heap.size W w' := by
  refine (refChecked_any m hm j so po c1 c2 sig path h18 h8 hj hz1 hz2 W h1 h2).mono ?_
  rintro e w' ⟨uo, uc, he, hs, hp, _, hb⟩
  rw [← hl] at he hs hp
  rw [← hn] at he
  clear hl
  rcases hs with hs | ⟨bk, off, rfl, hlt, hc⟩
  · subst hs; exact absurd hp (by decide)
  · refine ⟨⟨bk, off, uc, he, fun i u hu => ?_⟩, hb⟩
    have hi : i < l.length := by
      have := (List.getElem?_eq_some_iff.1 hu).1
      unfold strC at this
      rwa [List.length_map] at this
    have e : (⟨bk, off, none⟩ : Addr).add i = ⟨bk, off + i, none⟩ := by unfold Addr.add; split <;> simp_all
    rw [e, hc i hi]
    unfold strC at hu
    rw [List.getElem?_map, List.getElem?_eq_getElem hi] at hu
    exact hu
theorem checked_few (m : ByteArray) (j : Nat) (sig path : List ByteArray) (h8 : path.length ≤ 8) : (checkedV m j sig path).length ≤ 10000 := by
  have hk : ∀ k, (chkV m sig k).length ≤ 16 * k := fun k => by
    induction k with
    | zero => simp [chkV]
    | succ k ih => rw [chkV_succ, List.length_append, chainedV_len]; omega
  have := hk 18
  unfold checkedV
  have e : (stepsV j path (Sgn.lst (Sgn.endsOf m sig)) path.length).length = path.length := by simp [stepsV]
  rw [List.length_append, List.length_append, e]
  simp only [List.length_cons, List.length_nil]
  omega

set_option maxRecDepth 100000 in
set_option maxHeartbeats 8000000 in
theorem binds_any (sec : ByteArray) (hs : sec.size ≤ 140737488351232) (x : Int) (hx0 : 0 ≤ x) (hx1 : x ≤ 255) (y : Int) (hy0' : 0 ≤ y) (hy1' : y ≤ 255) (msg : ByteArray) (hm : msg.size ≤ 140737488351232) (oth : ByteArray) (ho : oth.size ≤ 140737488351232) (W : World) (ht : Tab W) :
    Calls Tryd.prog 6 #[.string sec, .int .u8 x, .int .u8 y, .string msg, .string oth] W fun e W' => e = .returned (.bool true) ∧ Below W.heap.size W W' := by
  obtain ⟨i1, hi1, hy0, hy1, hy2⟩ := info_parts info_str
  have HT := Lib.hid ht
  have HSh := Lib.hid (short3 sec msg oth hs hm ho)
  have HHd := Lib.hid (head_any W ht)
  obtain ⟨b1, Hb1⟩ : ∃ b, Hid (b = (decide (sec.size ≤ 300) && (decide (msg.size ≤ 300) && decide (oth.size ≤ 300)))) := ⟨_, Lib.hid rfl⟩
  rw [← Hb1.out] at HSh
  obtain ⟨a, rfl⟩ : ∃ a : Nat, x = a := ⟨x.toNat, by omega⟩
  obtain ⟨b, rfl⟩ : ∃ a : Nat, y = a := ⟨y.toNat, by omega⟩
  obtain ⟨h, Hh⟩ : ∃ h, Hid (h = a % 3) := ⟨_, Lib.hid rfl⟩
  have hm4 : ((a : Int) % 3) = (h : Int) := by rw [Hh.out]; omega
  have hh3 : h ≤ 2 := by rw [Hh.out]; omega
  obtain ⟨N, HN⟩ : ∃ N, Hid (N = 2 ^ h) := ⟨_, Lib.hid rfl⟩
  have hN : wrap64 ((2 : Int) ^ h) = (N : Int) := by rw [HN.out]; exact wrap_pow h (by omega)
  have hN0 : 0 < N := by rw [HN.out]; exact Nat.pow_pos (by decide)
  have hN8 : N ≤ 4 := by rw [HN.out]; exact (Nat.pow_le_pow_right (by decide) hh3 : 2 ^ h ≤ 2 ^ 2)
  obtain ⟨i, Hi⟩ : ∃ i, Hid (i = b % N) := ⟨_, Lib.hid rfl⟩
  have hmN : ((b : Int) % N) = (i : Int) := by rw [Hi.out]; push_cast; rfl
  have hiN : i < N := by rw [Hi.out]; exact Nat.mod_lt _ hN0
  have hih : i < 2 ^ h := by rw [← HN.out]; exact hiN
  have HM : Hid (msg.size ≤ 140737488351232 ∧ oth.size ≤ 140737488351232) := Lib.hid ⟨hm, ho⟩
  clear ht hs ho hm
  go_enter Tryd.func6, Tryd.ntmps6
  go_wp2_with fail
  refine HHd.out.mono ?_
  rintro e w1 ⟨rfl, hb⟩
  have HB1 := Lib.hid hb
  clear hb
  go_wp2_with fail
  refine (HSh.out w1).mono ?_
  rintro e _ ⟨rfl, rfl⟩
  obtain ⟨W2, HW2⟩ : ∃ x, Hid (x = w1.alloc (.cells #[.string sec, .string msg, .string oth] 9)) := ⟨_, Lib.hid rfl⟩
  have HB2 : Hid (Below W.heap.size W W2) := Lib.hid (by rw [HW2.out]; exact HB1.out.alloc HB1.out.size _)
  rw [← HW2.out]
  clear HW2
  cases b1 with
  | false =>
    go_wp2_with fail
    go_ret
    exact ⟨rfl, HB2.out⟩
  | true =>
    have hs3 : sec.size ≤ 300 := by
      have h := Hb1.out.symm
      rw [Bool.and_eq_true] at h
      exact of_decide_eq_true h.1
    clear Hb1
    have eqb : ∀ x y : ByteArray, (x.toList == y.toList) = decide (x = y) := fun x y => by
      by_cases h : x = y
      · rw [decide_eq_true h, h]; exact beq_self_eq_true _
      · rw [decide_eq_false h]; exact (Lib.bytes_beq_false_iff _ _).2 h
    obtain ⟨da, Hda⟩ : ∃ x, Hid (x = Sgn.dg msg) := ⟨_, Lib.hid rfl⟩
    obtain ⟨db, Hdb⟩ : ∃ x, Hid (x = Sgn.dg oth) := ⟨_, Lib.hid rfl⟩
    have HSa : Hid (∀ X, Calls Tryd.prog 25 #[.string msg] X fun e w' => e = .returned (.string da) ∧ X = w') := Lib.hid fun X => by rw [Hda.out]; exact refSum_any msg HM.out.1 X
    have HSb : Hid (∀ X, Calls Tryd.prog 25 #[.string oth] X fun e w' => e = .returned (.string db) ∧ X = w') := Lib.hid fun X => by rw [Hdb.out]; exact refSum_any oth HM.out.2 X
    by_cases hso : da = db
    · have q1 : (da.toList == db.toList) = true := by rw [eqb, decide_eq_true hso]
      clear eqb hso
      go_wp2_with fail
      refine (HSa.out _).mono ?_
      rintro e _ ⟨rfl, rfl⟩
      go_wp2_with fail
      refine (HSb.out _).mono ?_
      rintro e _ ⟨rfl, rfl⟩
      go_wp2_with fail
      go_ret
      exact ⟨rfl, HB2.out⟩
    · have q1 : (da.toList == db.toList) = false := by rw [eqb, decide_eq_false hso]
      obtain ⟨pub, Hpub⟩ : ∃ x, Hid (x = Sgn.rootV sec h) := ⟨_, Lib.hid rfl⟩
      obtain ⟨sig, Hsig⟩ : ∃ x, Hid (x = Sgn.sigV sec i msg) := ⟨_, Lib.hid rfl⟩
      obtain ⟨path, Hpath⟩ : ∃ x, Hid (x = Sgn.pathV sec h i) := ⟨_, Lib.hid rfl⟩
      obtain ⟨v, Hv⟩ : ∃ x, Hid (x = Sgn.verifyB pub oth i sig path) := ⟨_, Lib.hid rfl⟩
      have HP : Hid (∀ X, Below W.heap.size W X → Calls Tryd.prog 13 #[.string sec, .int .i64 h] X fun e w' => e = .returned (.tuple #[.string pub, .int .i64 0]) ∧ Below X.heap.size X w') := Lib.hid fun X hX => by
        rw [Hpub.out]; exact public_good sec hs3 h (by omega) X (HT.out.below hX)
      have HS1 : Hid (∀ X, Below W.heap.size W X → Calls Tryd.prog 15 #[.string sec, .int .i64 h, .int .i64 i, .string msg] X fun e w' => (∃ so po c1 c2, e = .returned (.tuple #[.agg #[.int .i64 i, .slice so 18 c1, .slice po h c2], .int .i64 0]) ∧ IsStrs w' so sig ∧ IsStrs w' po path ∧ 18 ≤ c1 ∧ h ≤ c2) ∧ Below X.heap.size X w') := Lib.hid fun X hX => by
        rw [Hsig.out, Hpath.out]; exact callsIn_wide.1 (sign_good sec msg hs3 HM.out.1 h i (by omega) hih X (HT.out.below hX))
      have hl1 : sig.length = 18 := by rw [Hsig.out, Sgn.sig_len]
      have hl2 : path.length = h := by rw [Hpath.out, Sgn.path_len]
      have hi1' : (sig.all fun s => Dig.isB s.data.toList) = true := by rw [Hsig.out]; exact Sgn.sig_is _ _ _
      have hi2' : (path.all fun s => Dig.isB s.data.toList) = true := by rw [Hpath.out]; exact Sgn.path_is _ _ _ (by omega) hih
      have hz : ∀ {l : List ByteArray}, (l.all fun s => Dig.isB s.data.toList) = true → ∀ s ∈ l, s.size ≤ 140737488351232 := fun h s hs => by
        have : s.size = 16 := (Sgn.isB_parts (List.all_eq_true.1 h s hs)).1
        omega
      have HVr : Hid (∀ X so po c1 c2, Below W.heap.size W X → IsStrs X so sig → IsStrs X po path → Calls Tryd.prog 18 #[.string pub, .string oth, .agg #[.int .i64 i, .slice so 18 c1, .slice po h c2]] X fun e w' => e = .returned (.bool v) ∧ Below X.heap.size X w') := Lib.hid fun X so po c1 c2 hX g1 g2 => by
        have := verify_any pub oth HM.out.2 i so po c1 c2 sig path (by omega) (by omega) (hz hi1') (hz hi2') X (HT.out.below hX) g1 g2
        rw [hl1, hl2, ← Hv.out] at this
        exact this
      have hz16 : ∀ {l : List ByteArray}, (l.all fun s => Dig.isB s.data.toList) = true → ∀ s ∈ l, s.size = 16 := fun h s hs => (Sgn.isB_parts (List.all_eq_true.1 h s hs)).1
      obtain ⟨l1, Hl1⟩ : ∃ l, Hid (l = madeV sec h 30) := ⟨_, Lib.hid rfl⟩
      obtain ⟨l2, Hl2⟩ : ∃ l, Hid (l = checkedV oth i sig path) := ⟨_, Lib.hid rfl⟩
      obtain ⟨n1, Hn1⟩ : ∃ l, Hid (l = l1.length) := ⟨_, Lib.hid rfl⟩
      obtain ⟨n2, Hn2⟩ : ∃ l, Hid (l = l2.length) := ⟨_, Lib.hid rfl⟩
      have hn1 : n1 ≤ 10000 := by rw [Hn1.out, Hl1.out]; exact made_few sec hs3 h 30 (by omega) (by decide)
      have hn2 : n2 ≤ 10000 := by rw [Hn2.out, Hl2.out]; exact checked_few _ _ _ _ (by omega)
      have hn20 : 0 < n2 := by rw [Hn2.out, Hl2.out]; unfold checkedV; simp; omega
      have HM1 : Hid (∀ X, Calls Tryd.prog 23 #[.string sec, .int .i64 h, .int .i64 30] X (RowPost n1 l1 X)) := Lib.hid fun X => by
        rw [Hn1.out, Hl1.out]; exact made_row sec hs3 h 30 (by omega) (by decide) (by decide) X
      have HM2 : Hid (∀ X so po c1 c2, IsStrs X so sig → IsStrs X po path → Calls Tryd.prog 24 #[.string oth, .agg #[.int .i64 i, .slice so 18 c1, .slice po h c2]] X fun e w' => (∃ b o c, e = .returned (.slice (some ⟨b, o, none⟩) n2 c) ∧ ∀ (i : Nat) (u : Value), (strC l2)[i]? = some u → w'.cell? ((⟨b, o, none⟩ : Addr).add i) = some u) ∧ Below X.heap.size X w') := Lib.hid fun X so po c1 c2 g1 g2 => by
        have := checked_row oth HM.out.2 i so po c1 c2 sig path hl1 (by omega) (by omega) (hz16 hi1') (hz16 hi2') X g1 g2 l2 n2 Hl2.out Hn2.out
        rw [hl2] at this
        exact this
      have HShn : Hid (v = true → ∀ X ao c, IsStrs X ao (l1 ++ l2) → Calls Tryd.prog 22 #[.slice ao (n1 + n2) c] X fun e w' => e = .returned (.bool true) ∧ Below X.heap.size X w') := Lib.hid fun hv X ao c hX => by
        have hlen : (l1 ++ l2).length = n1 + n2 := by rw [List.length_append, Hn1.out, Hn2.out]
        have := refShown_any ao (l1 ++ l2) c (by omega) (fun s hs => by
          rw [Hl1.out, Hl2.out] at hs
          rcases List.mem_append.1 hs with hs | hs
          · have := made_size hs3 (show h ≤ 8 by omega) s hs; omega
          · have := checked_size hl1 (hz16 hi1') (hz16 hi2') s hs; omega) X hX
        rw [hlen] at this
        refine this.mono ?_
        rintro e w' ⟨b, rfl, hb, hB⟩
        have hc : Coll (l1 ++ l2) := by
          obtain ⟨j, hj, _, hr⟩ := (verify_parts (Hv.out.symm.trans hv)).2.2.2.2
          have hj := Int.ofNat.inj hj
          subst hj
          rw [Hl1.out, Hl2.out, Hsig.out, Hpath.out]
          rw [Hsig.out, Hpath.out, Hpub.out] at hr
          exact binds_coll (by rw [← Hda.out, ← Hdb.out]; exact hso) (by omega) hih hr
        exact ⟨by rw [hb hc], hB⟩
      clear hl1 hl2 hi1' hi2' hz hz16 hih hs3 eqb hso
      go_wp2_with fail
      refine (HSa.out _).mono ?_
      rintro e _ ⟨rfl, rfl⟩
      go_wp2_with fail
      refine (HSb.out _).mono ?_
      rintro e _ ⟨rfl, rfl⟩
      go_wp2_with fail
      refine (HP.out _ HB2.out).mono ?_
      rintro e w3 ⟨rfl, hb⟩
      have HB3 := Lib.hid (below_step HB2.out hb)
      clear hb
      go_wp2_with fail
      refine (HS1.out _ HB3.out).mono ?_
      rintro e w4 ⟨⟨so, po, c1, c2, rfl, g1, g2, -, -⟩, hb⟩
      have HB4 := Lib.hid (below_step HB3.out hb)
      have HG1 := Lib.hid (And.intro g1 g2)
      clear hb g1 g2
      go_wp2_with fail
      obtain ⟨W5, HW5⟩ : ∃ x, Hid (x = w4.alloc (.cells #[.int .i64 i, .slice so 18 c1, .slice po h c2] 24)) := ⟨_, Lib.hid rfl⟩
      have HB45 : Hid (Below w4.heap.size w4 W5) := Lib.hid (by rw [HW5.out]; exact (Below.refl _ _).alloc (Nat.le_refl _) _)
      have HA := Lib.hid (show Whole W5 w4.heap.size 24 #[.int .i64 i, .slice so 18 c1, .slice po h c2] by rw [HW5.out]; exact Whole.new _ _ _)
      rw [← HW5.out]
      clear HW5
      refine (HVr.out _ so po c1 c2 (below_step HB4.out HB45.out) (HG1.out.1.below HB45.out) (HG1.out.2.below HB45.out)).mono ?_
      rintro e w5 ⟨rfl, hb⟩
      have HB5 := Lib.hid (below_step (below_step HB4.out HB45.out) hb)
      have HG5 := Lib.hid (And.intro (HG1.out.1.below (below_step HB45.out hb)) (HG1.out.2.below (below_step HB45.out hb)))
      have HA5 := Lib.hid ((hb.block _ HA.out.lt).trans HA.out)
      clear hb
      cases v with
      | false =>
        go_wp2_with fail
        go_ret
        exact ⟨rfl, HB5.out⟩
      | true =>
        have HSn := Lib.hid (HShn.out rfl)
        obtain ⟨A, HAq⟩ : ∃ x, Hid (x = w4.heap.size) := ⟨_, Lib.hid rfl⟩
        have HA6 : Hid (Whole w5 A 24 #[.int .i64 i, .slice so 18 c1, .slice po h c2]) := Lib.hid (by rw [HAq.out]; exact HA5.out)
        rw [← HAq.out]
        have hS0 : w5.cell? ⟨A, 0, none⟩ = some (.int .i64 i) ∧ w5.cell? ⟨A, 1, none⟩ = some (.slice so 18 c1) ∧ w5.cell? ⟨A, 2, none⟩ = some (.slice po h c2) := seal_cells (Below.refl _ _) HA6.out
        go_wp2_with fail
        go_region_held_law (fun w' => w'.cell? ⟨A, 0, none⟩ = some (.int .i64 i) ∧ w'.cell? ⟨A, 1, none⟩ = some (.slice so 18 c1) ∧ w'.cell? ⟨A, 2, none⟩ = some (.slice po h c2)) (first | exact hS4 | exact hS3 | exact hS2 | exact hS1 | exact hS0) (first
          | (have hq := HX2; refine step_append_guard _ rfl (.tmp 71) (.tmp 74) 22 rfl w5.heap.size 9 i1 (.string ⟨#[]⟩) 1 16 Tryd.underlying22 hi1 hy0 hy1 hy2 rfl (by decide) (.slice (some ⟨ga, 0, none⟩) n1 ca) n1 (strC l1) (by simp [Act.eval]) HR1.out ⟨gb, ob, none⟩ n2 cb (strC l2) (by simp [Act.eval]) HLn.out HNc.out (strC_one _) hn20 (by unfold maxLen; omega) (by omega) HX2.out.size ?_; intro g' cap' w10 hown hgrow; have HX3 := Lib.hid ((HX2.out.grown hgrow HX2.out.size (fun j e => (HR1.out.lt j e).1))); have HSt := Lib.hid (strs_of_row (l := l1 ++ l2) (by rw [strC_append]; exact hown) HLa.out); have hS3 := seal_cells HX3.out HA6.out; clear hown hgrow)
          | (have hq := HX1; go_simp; go_at_call 24; refine (HM2.out X1 so po c1 c2 (HG5.out.1.below HX1.out) (HG5.out.2.below HX1.out)).mono ?_; rintro e X2 ⟨⟨gb, ob, cb, rfl, hr2⟩, hb2⟩; have HX2 : Hid (Below w5.heap.size w5 X2) := Lib.hid (below_step HX1.out hb2); have HR1 := Lib.hid (owns_grown HRa.out hb2); have HNc := Lib.hid hr2; have HLn : Hid ((strC l2).length = n2 * 1) := Lib.hid (by rw [Hn2.out]; simp [strC]); have HLa : Hid (n1 + n2 = (l1 ++ l2).length) := Lib.hid (by rw [List.length_append, Hn1.out, Hn2.out]); have hS2 := seal_cells HX2.out HA6.out; clear hr2 hb2)
          | (go_simp; go_at_call 23; refine (HM1.out _).mono ?_; rintro e X1 ⟨ga, ca, rfl, hr1, hb1⟩; have HX1 : Hid (Below w5.heap.size w5 X1) := Lib.hid ((Below.refl _ _).drew.trans hb1); have HRa : Hid (X1.ownsRow w5.heap.size 9 1 (.slice (some ⟨ga, 0, none⟩) n1 ca) n1 (strC l1)) := Lib.hid hr1; have hS1 := seal_cells HX1.out HA6.out; clear hr1 hb1)
          | (have hq := HX3; go_simp; go_at_call 22; refine (HSn.out _ _ _ HSt.out).mono ?_; rintro e X4 ⟨rfl, hb4⟩; have HX4 := Lib.hid (HB5.out.trans ((below_step HX3.out hb4).mono HB5.out.size)); have hS4 := seal_cells (below_step HX3.out hb4) HA6.out; clear hb4))
        all_goals
          go_wp2_with fail
          go_ret
          exact ⟨rfl, HX4.out⟩

end Go.Proofs.YtfnbdjjobndgfaaDoor
