/- ReportFewer. -/
import Derived.Test.YtknphmkblcbabaaGreatDoorRepLFewM
namespace Go.Proofs.YtknphmkblcbabaaGreatDoor
open Go.RowKit Go.Sort
open Evt

theorem isZ_one {V : World} {g : Nat} {z : Int} (h : Whole V g 3 #[.int .i64 z]) : IsL 1 ElZ V (some ⟨g, 0, none⟩) [z] := by
  refine IsL.whole (t := 3) (css := [[.int .i64 z]]) (by simpa using h) rfl (by simp) ?_
  intro k hk hk'
  obtain rfl : k = 0 := by simp at hk; exact hk
  rfl
theorem OwnL.cap {α : Type} {te : TypeId} {size B : Nat} {El : World → List Value → α → Prop} {W0 w : World} {v : Value} {l : List α} (h : OwnL te size El B W0 w v l) {ao : Option Addr} {n c : Nat} (hv : v = .slice ao n c) : n ≤ c ∧ c ≤ maxLen := by
  obtain ⟨css, _, h2⟩ := h.ex
  subst hv
  rcases h2.2 with ⟨e, h0⟩ | ⟨g, cap, cur, e, _, _, hle, hmx, _⟩
  · cases e; exact ⟨Nat.le_refl _, Nat.zero_le _⟩
  · injection e with _ e2 e3
    subst e2 e3
    exact ⟨hle, hmx⟩

def fwV (N n oc k : Nat) (oo bo bo2 : Option Addr) (db : Bool) : Nat → Value → Prop
  | 0, v => v = .pointer (some ⟨N, 1, none⟩)
  | 1, v => v = .bool db
  | 3, v => v = .pointer (some ⟨N, 0, none⟩)
  | 4, v => v = .slice oo n oc
  | 5, v => v = .int .i64 k
  | 6, v => v = .slice bo k oc
  | 8, v => v = .pointer (some ⟨N, 0, none⟩)
  | 9, v => v = .slice oo n oc
  | 10, v => v = .int .i64 k
  | 11, v => v = .int .i64 ((k + 1 : Nat) : Int)
  | 12, v => v = .slice bo2 (n - (k + 1)) (oc - (k + 1))
  | _, _ => True
set_option maxRecDepth 100000 in
set_option maxHeartbeats 16000000 in
theorem lfewer_any (x : Rp) (oo : Option Addr) (oc : Nat) (hc1 : x.opts.length ≤ oc) (hc2 : oc ≤ 9223372036854775807) (z : Int) (hz0 : 0 ≤ z) (hz1 : z ≤ 255) (W : World) (hi : IsL 14 ElEv W oo x.opts) (hT : WTab W) (ht : Tab W) :
    Calls Tryz.prog 8 #[.agg #[.slice oo x.opts.length oc, .bool x.doubt], .int .u8 z] W fun e w' => e = .returned (.bool true) ∧ Below W.heap.size W w' := by
  obtain ⟨V, HV⟩ : ∃ w, Hid (w = W.alloc (.cells #[.slice oo x.opts.length oc, .bool x.doubt] 31)) := ⟨_, Lib.hid rfl⟩
  obtain ⟨N, HN⟩ : ∃ N, Hid (N = W.heap.size) := ⟨_, Lib.hid rfl⟩
  have HB : Hid (Below W.heap.size W V) := Lib.hid (by rw [HV.out]; exact (Below.refl _ _).alloc (Nat.le_refl _) _)
  have HW : Hid (Whole V N 31 #[.slice oo x.opts.length oc, .bool x.doubt]) := Lib.hid (by rw [HV.out, HN.out]; exact Whole.new _ _ _)
  have HHd := Lib.hid (head13_any V (hT.below HB.out) (ht.below HB.out))
  have HI := Lib.hid (hi.below stEv HB.out)
  have HVl := Lib.hid (fun (w : World) (h : Below V.heap.size V w) => repValid_any x oo oc hc1 hc2 w (HI.out.below stEv h))
  have HCh := Lib.hid (fun (w : World) (h : Below V.heap.size V w) => choices_any x oo oc hc1 hc2 w (HI.out.below stEv h))
  have HNm := Lib.hid (fun (w : World) (h : Below V.heap.size V w) => repNames_any x oo oc hc1 hc2 w (HI.out.below stEv h))
  have HOne : Hid (∀ (w : World) (g : Nat), Below V.heap.size V w → Whole w g 31 #[.slice oo x.opts.length oc, .bool x.doubt] → IsL 2 ElRp w (some ⟨g, 0, none⟩) [x]) := Lib.hid (fun (w : World) (g : Nat) (h : Below V.heap.size V w) (hg : Whole w g 31 #[.slice oo x.opts.length oc, .bool x.doubt]) => (IsL.whole (t := 31) (css := [[.slice oo x.opts.length oc, .bool x.doubt]]) (by simpa using hg) rfl (by simp) (fun k hk hk' => by
    obtain rfl : k = 0 := by simp at hk; exact hk
    exact ⟨oo, oc, rfl, HI.out.below stEv h, hc1, hc2⟩)))
  have HFw := Lib.hid (fun (w : World) (g : Nat) (h : Below V.heap.size V w) (hg : Whole w g 31 #[.slice oo x.opts.length oc, .bool x.doubt]) => fewLaw_any (some ⟨g, 0, none⟩) [x] 1 (by simp) none 0 0 (by omega) w (HOne.out w g h hg))
  obtain ⟨n, Hn⟩ : ∃ n, Hid (n = x.opts.length) := ⟨_, Lib.hid rfl⟩
  obtain ⟨db, Hdb⟩ : ∃ n, Hid (n = x.doubt) := ⟨_, Lib.hid rfl⟩
  obtain ⟨vr, Hvr⟩ : ∃ b, Hid (b = validR x) := ⟨_, Lib.hid rfl⟩
  rw [← Hn.out, ← Hdb.out] at HV HW HVl HNm HFw HCh HOne ⊢
  rw [← Hvr.out] at HVl
  rw [← Hn.out] at hc1
  have hn9 : n ≤ 9223372036854775807 := by omega
  clear hi hT ht
  go_enter Tryz.func8, Tryz.ntmps8
  go_wp2_with fail
  rw [← HV.out, ← HN.out]
  refine HHd.out.mono ?_
  rintro e w1 ⟨rfl, hb⟩
  have HB1 := Lib.hid hb
  have k0 : w1.cell? ⟨N, 0, none⟩ = some (.slice oo n oc) := (whole_belowM HW.out hb).cell 0
  have k1 : w1.cell? ⟨N, 1, none⟩ = some (.bool db) := (whole_belowM HW.out hb).cell 1
  clear hb
  obtain ⟨g, Hg⟩ : ∃ g, Hid (g = w1.heap.size) := ⟨_, Lib.hid rfl⟩
  obtain ⟨w2, Hw2⟩ : ∃ w, Hid (w = w1.alloc (.cells #[.slice oo n oc, .bool db] 31)) := ⟨_, Lib.hid rfl⟩
  have HB2 : Hid (Below V.heap.size V w2) := Lib.hid (by rw [Hw2.out]; exact below_alloc HB1.out _)
  have HWg : Hid (Whole w2 g 31 #[.slice oo n oc, .bool db]) := Lib.hid (by rw [Hw2.out, Hg.out]; exact Whole.new _ _ _)
  have HF2 := Lib.hid (HFw.out w2 g HB2.out HWg.out)
  go_wp2_with fail
  rw [← Hw2.out, ← Hg.out]
  clear k0 k1
  refine HF2.out.mono ?_
  rintro e wa ⟨b, rfl, -, hb⟩
  have HBa := Lib.hid (below_step HB2.out hb)
  have HBWa := Lib.hid (below_step HB.out HBa.out)
  clear hb
  cases b with
  | false =>
    go_wp2_with fail
    go_ret
    exact ⟨rfl, HBWa.out⟩
  | true =>
  have k0 : wa.cell? ⟨N, 0, none⟩ = some (.slice oo n oc) := (whole_belowM HW.out HBa.out).cell 0
  have k1 : wa.cell? ⟨N, 1, none⟩ = some (.bool db) := (whole_belowM HW.out HBa.out).cell 1
  have HVa := Lib.hid (HVl.out wa HBa.out)
  go_wp2_with fail
  refine HVa.out.mono ?_
  rintro e w3 ⟨rfl, hb⟩
  have HB3 := Lib.hid (below_step HBa.out hb)
  have HBW3 := Lib.hid (below_step HBWa.out hb)
  clear hb k0 k1
  have k0 : w3.cell? ⟨N, 0, none⟩ = some (.slice oo n oc) := (whole_belowM HW.out HB3.out).cell 0
  have k1 : w3.cell? ⟨N, 1, none⟩ = some (.bool db) := (whole_belowM HW.out HB3.out).cell 1
  cases vr with
  | false =>
    go_wp2_with fail
    go_ret
    exact ⟨rfl, HBW3.out⟩
  | true =>
  by_cases hn2 : n < 2
  · have hd : decide ((n : Int) < 2) = true := decide_eq_true (by omega)
    go_wp2_with fail
    go_ret
    exact ⟨rfl, HBW3.out⟩
  have hd : decide ((n : Int) < 2) = false := decide_eq_false (by omega)
  obtain ⟨k, hk⟩ : ∃ k : Nat, z % (n : Int) = k := ⟨(z % (n : Int)).toNat, by have := Int.emod_nonneg z (by omega : (n : Int) ≠ 0); omega⟩
  have hkn : k < n := by have := Int.emod_lt_of_pos z (by omega : (0 : Int) < n); omega
  have hn1 : (1 : Int) ≤ n := by omega
  have Hv : Hid (validR x = true) := Lib.hid Hvr.out.symm
  have hn4 : n ≤ 4 := by rw [Hn.out]; exact (validR_len Hv.out).2
  have hwr : IntKind.i64.wrap ((k : Int) + 1) = ((k + 1 : Nat) : Int) := by rw [IntKind.wrap_i64]; omega
  have HI3 := Lib.hid (HI.out.below stEv HB3.out)
  have HW3 := Lib.hid (whole_belowM HW.out HB3.out)
  obtain ⟨bo, hbo, hl1⟩ := HI3.out.headL (c := oc) (k := k)
  obtain ⟨bo2, hbo2, hl2⟩ := HI3.out.tailL (c := oc) (k := k + 1) (by rw [← Hn.out]; omega) (by rw [← Hn.out]; exact hc1)
  rw [← Hn.out] at hbo2
  have HBo := Lib.hid hbo
  have HBo2 := Lib.hid hbo2
  have HL1 := Lib.hid hl1
  have HL2 := Lib.hid hl2
  have hlk : (x.opts.take k).length = k := by rw [List.length_take, ← Hn.out]; omega
  have hld : (x.opts.drop (k + 1)).length = n - (k + 1) := by rw [List.length_drop, ← Hn.out]
  have HSz : Hid ((x.opts.take k).length ≤ maxLen ∧ (x.opts.take k).length * 160 ≤ 140737488355328 ∧ (x.opts.take k).length + (x.opts.drop (k + 1)).length ≤ maxLen ∧ ((x.opts.take k).length + (x.opts.drop (k + 1)).length) * 160 ≤ 140737488355328 ∧ (x.opts.take k).length = k ∧ (x.opts.drop (k + 1)).length = n - (k + 1)) :=
    Lib.hid ⟨by rw [hlk]; unfold maxLen; omega, by rw [hlk]; omega, by rw [hlk, hld]; unfold maxLen; omega, by rw [hlk, hld]; omega, hlk, hld⟩
  clear hbo hbo2 hl1 hl2 hlk hld
  have Hwr := Lib.hid hwr
  clear hwr
  go_wp2_with fail
  clear k0 k1
  rw [hk]
  have hwr := Hwr.out
  apply wp_region_entE 128 fwK (fwP w3 x.opts k db) (fwV N n oc k oo bo bo2 db) fwP_cg (by kernel_rfl) (by kernel_rfl) rfl (fun k kl hk => fwP_zero k kl hk)
  · intro i o ho e w A' hT hei hwn hsee haway
    have q2 : A'.eval (.tmp 2) = .pointer (some ⟨N, 0, none⟩) := (haway 2 (by kernel_rfl)).trans rfl
    have q6 : A'.eval (.tmp 6) = .int .i64 k := (haway 6 (by kernel_rfl)).trans rfl
    have HLw : Below w3.heap.size w3 w := hT.fact 0 rfl (by simp) (by simp) rfl
    have HWb := whole_belowM HW3.out HLw
    have hi : i < 17 := by have := (List.getElem?_eq_some_iff.1 ho).1; simpa using this
    have hi : i = 0 ∨ i = 1 ∨ i = 2 ∨ i = 3 ∨ i = 4 ∨ i = 5 ∨ i = 6 ∨ i = 7 ∨ i = 8 ∨ i = 9 ∨ i = 10 ∨ i = 11 ∨ i = 12 ∨ i = 13 ∨ i = 14 ∨ i = 15 ∨ i = 16 := by omega
    rcases hi with rfl | rfl | rfl | rfl | rfl | rfl | rfl | rfl | rfl | rfl | rfl | rfl | rfl | rfl | rfl | rfl | rfl
    all_goals
      simp only [List.getElem?_cons_succ, List.getElem?_cons_zero, Option.some.injEq] at ho
      subst ho
    · exact wp_of_runL (rField _ _ _ _ _ A' w 31 (.tmp 2) 1 N 0 1 _ _ Tryz.underlying31 rfl (by kernel_rfl) rfl (by kernel_rfl) q2) ⟨_, rfl, rfl, LeavesE.plain fwP_below (Below.refl _ _) (by decide)⟩
    · have q41 : A'.eval (.tmp 41) = .pointer (some ⟨N, 1, none⟩) := (hsee 41 0 (by kernel_rfl) (by kernel_rfl)).2 (want_free (by kernel_rfl))
      exact wp_of_runL (rLoad1 _ _ _ _ _ A' w 4 (.tmp 41) _ _ _ Tryz.underlying4 rfl (HWb.cell 1) q41) ⟨_, rfl, rfl, LeavesE.plain fwP_below (Below.refl _ _) (by decide)⟩
    · exact wp_of_runL (run_emptyEv _ _ _ _ _ A' w) ⟨_, rfl, trivial, LeavesE.below fwP_below ((Below.refl _ _).alloc (Nat.le_refl _) _) (fw_new2 HLw)⟩
    · exact wp_of_runL (rField _ _ _ _ _ A' w 31 (.tmp 2) 0 N 0 0 _ _ Tryz.underlying31 rfl (by kernel_rfl) rfl (by kernel_rfl) q2) ⟨_, rfl, rfl, LeavesE.plain fwP_below (Below.refl _ _) (by decide)⟩
    · have q44 : A'.eval (.tmp 44) = .pointer (some ⟨N, 0, none⟩) := (hsee 44 3 (by kernel_rfl) (by kernel_rfl)).2 (want_free (by kernel_rfl))
      exact wp_of_runL (rLoad1 _ _ _ _ _ A' w 26 (.tmp 44) _ _ _ Tryz.underlying26 rfl (HWb.cell 0) q44) ⟨_, rfl, rfl, LeavesE.plain fwP_below (Below.refl _ _) (by decide)⟩
    · exact wp_of_runL (rMove _ _ _ _ _ A' w (.tmp 6) _ q6) ⟨_, rfl, rfl, LeavesE.plain fwP_below (Below.refl _ _) (by decide)⟩
    · have q45 : A'.eval (.tmp 45) = .slice oo n oc := (hsee 45 4 (by kernel_rfl) (by kernel_rfl)).2 (want_free (by kernel_rfl))
      have q46 : A'.eval (.tmp 46) = .int .i64 k := (hsee 46 5 (by kernel_rfl) (by kernel_rfl)).2 (want_free (by kernel_rfl))
      exact wp_of_runL (rHead _ _ _ _ _ A' w 26 51 14 (.tmp 45) (.tmp 46) oo n oc k Tryz.underlying26 (by kernel_rfl) (by omega) q45 q46) ⟨_, rfl, HBo.out, LeavesE.plain fwP_below (Below.refl _ _) (by decide)⟩
    · have f2 : e 2 = some (A'.eval (.tmp 43)) := (hsee 43 2 (by kernel_rfl) (by kernel_rfl)).1
      have q47 : A'.eval (.tmp 47) = .slice bo k oc := (hsee 47 6 (by kernel_rfl) (by kernel_rfl)).2 (want_free (by kernel_rfl))
      obtain ⟨g0, h1, h2, h3⟩ := hT.fact 1 rfl (by simp [hei]) (by simp [f2]) rfl
      rw [valOf_some f2] at h1
      obtain ⟨v, w', hr, ho7, hb7⟩ := run_copyL tyEv _ (c := oc) (B := w3.heap.size) HLw h3 h2 (HSz.out.1) (HSz.out.2.1) HL1.out
      exact wp_of_runL (run_append_two _ _ _ _ _ A' w w' 43 47 _ _ _ _ h1 q47 (by rw [← HSz.out.2.2.2.2.1]; exact hr)) ⟨_, rfl, trivial, LeavesE.below fwP_below hb7 (fw_new7 ho7)⟩
    · exact wp_of_runL (rField _ _ _ _ _ A' w 31 (.tmp 2) 0 N 0 0 _ _ Tryz.underlying31 rfl (by kernel_rfl) rfl (by kernel_rfl) q2) ⟨_, rfl, rfl, LeavesE.plain fwP_below (Below.refl _ _) (by decide)⟩
    · have q49 : A'.eval (.tmp 49) = .pointer (some ⟨N, 0, none⟩) := (hsee 49 8 (by kernel_rfl) (by kernel_rfl)).2 (want_free (by kernel_rfl))
      exact wp_of_runL (rLoad1 _ _ _ _ _ A' w 26 (.tmp 49) _ _ _ Tryz.underlying26 rfl (HWb.cell 0) q49) ⟨_, rfl, rfl, LeavesE.plain fwP_below (Below.refl _ _) (by decide)⟩
    · exact wp_of_runL (rMove _ _ _ _ _ A' w (.tmp 6) _ q6) ⟨_, rfl, rfl, LeavesE.plain fwP_below (Below.refl _ _) (by decide)⟩
    · have q51 : A'.eval (.tmp 51) = .int .i64 k := (hsee 51 10 (by kernel_rfl) (by kernel_rfl)).2 (want_free (by kernel_rfl))
      exact wp_of_runL (rAddInt _ _ _ _ _ A' w _ _ (.tmp 51) _ k 1 _ q51 rfl hwr) ⟨_, rfl, rfl, LeavesE.plain fwP_below (Below.refl _ _) (by decide)⟩
    · have q50 : A'.eval (.tmp 50) = .slice oo n oc := (hsee 50 9 (by kernel_rfl) (by kernel_rfl)).2 (want_free (by kernel_rfl))
      have q52 : A'.eval (.tmp 52) = .int .i64 ((k + 1 : Nat) : Int) := (hsee 52 11 (by kernel_rfl) (by kernel_rfl)).2 (want_free (by kernel_rfl))
      exact wp_of_runL (rTail _ _ _ _ _ A' w 26 51 14 (.tmp 50) (.tmp 52) oo n oc (k + 1) Tryz.underlying26 (by kernel_rfl) (by omega) q50 q52) ⟨_, rfl, HBo2.out, LeavesE.plain fwP_below (Below.refl _ _) (by decide)⟩
    · have f7 : e 7 = some (A'.eval (.tmp 48)) := (hsee 48 7 (by kernel_rfl) (by kernel_rfl)).1
      have q53 : A'.eval (.tmp 53) = .slice bo2 (n - (k + 1)) (oc - (k + 1)) := (hsee 53 12 (by kernel_rfl) (by kernel_rfl)).2 (want_free (by kernel_rfl))
      have h1 := hT.fact 2 rfl (by simp [hei]) (by simp [f7]) rfl
      simp only [fwP, valOf_some f7] at h1
      obtain ⟨v, w', hr, ho13, hg13⟩ := run_moreL tyEv _ (c := oc - (k + 1)) HLw HLw.size h1 (HSz.out.2.2.1) (HSz.out.2.2.2.1) HL2.out
      exact wp_of_runL (run_append_two _ _ _ _ _ A' w w' 48 53 _ _ _ _ rfl q53 (by rw [← HSz.out.2.2.2.2.2]; exact hr)) ⟨_, rfl, trivial, fw_leaves13 HLw (by simp [f7]) (hT.none_of hei (by kernel_rfl)) (hT.none_of (hT.none_of hei (by kernel_rfl) : e 14 = none) (by kernel_rfl)) h1 ho13 hg13⟩
    · have q42 : A'.eval (.tmp 42) = .bool db := (hsee 42 1 (by kernel_rfl) (by kernel_rfl)).2 (want_free (by kernel_rfl))
      have f13 : e 13 = some (A'.eval (.tmp 54)) := (hsee 54 13 (by kernel_rfl) (by kernel_rfl)).1
      have h1 := hT.fact 3 rfl (by simp) (by simp [f13]) rfl
      simp only [fwP, valOf_some f13] at h1
      obtain ⟨po, pc, hv⟩ := h1.shape
      exact wp_of_runL (run_buildRp _ _ _ _ _ A' w 42 54 _ _ _ _ q42 hv) ⟨_, rfl, trivial, LeavesE.below fwP_below (Below.refl _ _) (fw_new14 f13 hv)⟩
    · exact wp_of_runL (run_allocRp _ _ _ _ _ A' w) ⟨_, rfl, trivial, LeavesE.below fwP_below ((Below.refl _ _).alloc (Nat.le_refl _) _) (fw_new15 (hT.none_of hei (by kernel_rfl)) HLw)⟩
    · have f15 : e 15 = some (A'.eval (.tmp 7)) := (hsee 7 15 (by kernel_rfl) (by kernel_rfl)).1
      have f14 : e 14 = some (A'.eval (.tmp 55)) := (hsee 55 14 (by kernel_rfl) (by kernel_rfl)).1
      have f13 : e 13 ≠ none := hT.order 14 13 (by simp [f14]) (by kernel_rfl)
      obtain ⟨v13, f13⟩ := Option.ne_none_iff_exists'.1 f13
      have f7 : e 7 ≠ none := hT.order 13 7 (by simp [f13]) (by kernel_rfl)
      have f2 : e 2 ≠ none := hT.order 7 2 f7 (by kernel_rfl)
      have h1 := hT.fact 3 rfl (by simp) (by simp [f13]) rfl
      simp only [fwP, valOf_some f13] at h1
      obtain ⟨g, h3, h4, h5⟩ := hT.fact 4 rfl (by simp [hei]) (by simp [f15]) rfl
      rw [valOf_some f15] at h3
      have h6 := hT.fact 6 rfl (by simp) (by simp [f13, f14]) rfl
      simp only [fwP, valOf_some f13, valOf_some f14] at h6
      obtain ⟨po, pc, hv⟩ := h1.shape
      obtain ⟨w', hr, hz, hg, hw'⟩ := rStore (P := Tryz.prog) _ _ _ _ _ A' w 31 (.tmp 7) (.tmp 55) g _ _ #[v13, .bool db] h3 h6 h5 (by kernel_rfl) rfl (by rw [hv]; simp [Value.oneCell'])
      exact wp_of_skipL hr ⟨_, rfl, trivial, fw_leaves16 HLw f13 f15 f7 f2 h4 h3 h1 h5 hg hw'⟩
  intro e wz hT hall
  obtain ⟨v0, e0⟩ := hall 0 (by decide)
  obtain ⟨v1, e1⟩ := hall 1 (by decide)
  obtain ⟨v2, e2⟩ := hall 2 (by decide)
  obtain ⟨v3, e3⟩ := hall 3 (by decide)
  obtain ⟨v4, e4⟩ := hall 4 (by decide)
  obtain ⟨v5, e5⟩ := hall 5 (by decide)
  obtain ⟨v6, e6⟩ := hall 6 (by decide)
  obtain ⟨v7, e7⟩ := hall 7 (by decide)
  obtain ⟨v8, e8⟩ := hall 8 (by decide)
  obtain ⟨v9, e9⟩ := hall 9 (by decide)
  obtain ⟨v10, e10⟩ := hall 10 (by decide)
  obtain ⟨v11, e11⟩ := hall 11 (by decide)
  obtain ⟨v12, e12⟩ := hall 12 (by decide)
  obtain ⟨v13, e13⟩ := hall 13 (by decide)
  obtain ⟨v14, e14⟩ := hall 14 (by decide)
  obtain ⟨v15, e15⟩ := hall 15 (by decide)
  obtain ⟨v16, e16⟩ := hall 16 (by decide)
  have hF0 := hT.fact 0 rfl (by simp) (by simp [hall]) (by kernel_rfl)
  simp only [fwP] at hF0
  have hF3 := hT.fact 3 rfl (by simp) (by simp [e13]) (by kernel_rfl)
  simp only [fwP, valOf_some e13] at hF3
  have hF5 := hT.fact 5 rfl (by simp) (by simp [e13, e15, e16]) (by kernel_rfl)
  simp only [fwP, valOf_some e13, valOf_some e15, valOf_some e16] at hF5
  simp only [List.length_cons, List.length_nil, Nat.reduceAdd, fillTo, e0, e1, e2, e3, e4, e5, e6, e7, e8, e9, e10, e11, e12, e13, e14, e15, e16, dstOf]
  clear e0 e1 e2 e3 e4 e5 e6 e7 e8 e9 e10 e11 e12 e13 e14 e15 e16 hT hall
  have HF0 := Lib.hid hF0
  have HF3 := Lib.hid hF3
  have HF5 := Lib.hid hF5
  clear hF0 hF3 hF5
  go_simp
  clear hwr
  obtain ⟨g7, rfl, hg7, hW7⟩ := HF5.out
  obtain ⟨y, Hy⟩ : ∃ y, Hid (y = lessR x k) := ⟨_, Lib.hid rfl⟩
  have hyo : x.opts.take k ++ x.opts.drop (k + 1) = y.opts := by rw [Hy.out]; rfl
  have hyd : x.doubt = y.doubt := by rw [Hy.out]; rfl
  obtain ⟨lo, lc, hv13, hll⟩ := HF3.out.isL stEv HF0.out
  have hcap := HF3.out.cap hv13
  rw [hyo] at hll hv13 hcap
  subst hv13
  have HBz := Lib.hid (below_step HB3.out HF0.out)
  have HBWz := Lib.hid (below_step HB.out HBz.out)
  have HLy := Lib.hid hll
  have hk2 : 2 ≤ x.opts.length := by rw [← Hn.out]; omega
  have hkx : k < x.opts.length := by rw [← Hn.out]; exact hkn
  have Hvy : Hid (validR y = true) := Lib.hid (by rw [Hy.out]; exact less_valid Hv.out hk2 hkx)
  obtain ⟨cn, hcn⟩ : ∃ c : Nat, choices x = c := ⟨(choices x).toNat, by rw [choices_yes Hv.out]; split <;> omega⟩
  have Hcn := Lib.hid hcn
  have HcnY : Hid (choices y = (cn : Int) - 1) := Lib.hid (by rw [Hy.out, less_choices Hv.out hk2 hkx, Hcn.out])
  have hcn2 : 1 ≤ cn ∧ cn ≤ 5 := by
    have := choices_yes Hv.out
    have h4 := (validR_len Hv.out).2
    rw [hcn] at this
    cases hdd : x.doubt <;> rw [hdd] at this <;> simp at this <;> omega
  obtain ⟨hcn1, hcn5⟩ := hcn2
  have HKC : Hid (n ≤ cn) := Lib.hid (by
    have := choices_yes Hv.out
    rw [hcn, ← Hn.out] at this
    cases hdd : x.doubt <;> rw [hdd] at this <;> simp at this <;> omega)
  have HVy := Lib.hid (fun (w : World) (h : Below wz.heap.size wz w) => repValid_any y lo lc hcap.1 (by have := hcap.2; unfold maxLen at this; omega) w (HLy.out.below stEv h))
  have HCy := Lib.hid (fun (w : World) (h : Below wz.heap.size wz w) => choices_any y lo lc hcap.1 (by have := hcap.2; unfold maxLen at this; omega) w (HLy.out.below stEv h))
  have HNy := Lib.hid (fun (w : World) (h : Below wz.heap.size wz w) => repNames_any y lo lc hcap.1 (by have := hcap.2; unfold maxLen at this; omega) w (HLy.out.below stEv h))
  have HOneY : Hid (∀ (w : World) (g : Nat), Below wz.heap.size wz w → Whole w g 31 #[.slice lo y.opts.length lc, .bool y.doubt] → IsL 2 ElRp w (some ⟨g, 0, none⟩) [y]) := Lib.hid (fun w g h hg => (IsL.whole (t := 31) (css := [[.slice lo y.opts.length lc, .bool y.doubt]]) (by simpa using hg) rfl (by simp) (fun k hk hk' => by
    obtain rfl : k = 0 := by simp at hk; exact hk
    exact ⟨lo, lc, rfl, HLy.out.below stEv h, hcap.1, by have := hcap.2; unfold maxLen at this; omega⟩)))
  rw [Hvy.out] at HVy
  rw [HcnY.out] at HCy
  rw [Hcn.out] at HCh
  obtain ⟨L, HL⟩ : ∃ L, Hid (L = y.opts.length) := ⟨_, Lib.hid rfl⟩
  rw [← HL.out] at HVy HCy HNy HOneY hW7
  rw [← hyd, ← Hdb.out] at HVy HCy HNy HOneY
  have HWy := Lib.hid hW7
  rw [← HL.out]
  have k0 : wz.cell? ⟨N, 0, none⟩ = some (.slice oo n oc) := (whole_belowM HW.out HBz.out).cell 0
  have k1 : wz.cell? ⟨N, 1, none⟩ = some (.bool db) := (whole_belowM HW.out HBz.out).cell 1
  have HCz := Lib.hid (HCh.out wz HBz.out)
  clear hyo hyd hll hcap hk2 hkx hcn hW7 hg7 hk HF5 HF3
  go_wp2_with fail
  refine HCz.out.mono ?_
  rintro e w5 ⟨rfl, hb⟩
  have HB5 := Lib.hid hb
  clear hb k0 k1
  have k0 : w5.cell? ⟨g7, 0, none⟩ = some (.slice lo L lc) := (whole_belowM HWy.out HB5.out).cell 0
  have k1 : w5.cell? ⟨g7, 1, none⟩ = some (.bool db) := (whole_belowM HWy.out HB5.out).cell 1
  have HV5 := Lib.hid (HVy.out w5 HB5.out)
  go_wp2_with fail
  refine HV5.out.mono ?_
  rintro e w6 ⟨rfl, hb⟩
  have HB6 := Lib.hid (below_step HB5.out hb)
  clear hb k0 k1
  have k0 : w6.cell? ⟨g7, 0, none⟩ = some (.slice lo L lc) := (whole_belowM HWy.out HB6.out).cell 0
  have k1 : w6.cell? ⟨g7, 1, none⟩ = some (.bool db) := (whole_belowM HWy.out HB6.out).cell 1
  have HC6 := Lib.hid (HCy.out w6 HB6.out)
  go_wp2_with fail
  refine HC6.out.mono ?_
  rintro e w7 ⟨rfl, hb⟩
  have HB7 := Lib.hid (below_step HB6.out hb)
  clear hb k0 k1
  have hne : ((cn : Int) - 1 != (cn : Int) - 1) = false := by simp
  go_wp2_with fail
  go_loopw [9] (fun i wr => ∃ i' : Nat, i' ≤ cn ∧ i = .int .i64 i' ∧ Hid (Below wz.heap.size wz wr)) (fun i _ => cn - (intOf i).toNat)
  case atStart => exact ⟨0, Nat.zero_le _, by go_num, HB7⟩
  case round =>
    obtain ⟨i, hi, rfl, HI9⟩ := hrel
    clear hne
    by_cases hic : i < cn
    · have hd2 : decide ((i : Int) < cn) = true := decide_eq_true (by omega)
      by_cases hik : i = k
      · subst hik
        have hd3 : ((i : Int) == i) = true := by simp
        go_wp2_with fail
        go_round
        case rel => exact ⟨i + 1, by omega, by go_num, HI9⟩
        case measure => simp [intOf]; omega
      · have hd3 : ((i : Int) == k) = false := by simp; omega
        by_cases hgt : k < i
        · have hd4 : decide ((k : Int) < i) = true := decide_eq_true (by omega)
          obtain ⟨j, hj⟩ : ∃ j : Nat, (i : Int) - 1 = j := ⟨i - 1, by omega⟩
          have hij : (i < k ∧ j = i) ∨ (k < i ∧ j = i - 1) := Or.inr ⟨hgt, by omega⟩
          have hj2 : j + 1 < cn := by omega
          have HN9 := Lib.hid (whole_belowM HW.out (below_step HBz.out HI9.out))
          have k0 : wr.cell? ⟨N, 0, none⟩ = some (.slice oo n oc) := HN9.out.cell 0
          have k1 : wr.cell? ⟨N, 1, none⟩ = some (.bool db) := HN9.out.cell 1
          obtain ⟨ga, Hga⟩ : ∃ g, Hid (g = wr.heap.size) := ⟨_, Lib.hid rfl⟩
          obtain ⟨wb, Hwb⟩ : ∃ w, Hid (w = (wr.alloc (.cells #[.slice oo n oc, .bool db] 31)).alloc (.cells #[.int .i64 (i : Int)] 3)) := ⟨_, Lib.hid rfl⟩
          have hF := two_newP wr #[.slice oo n oc, .bool db] #[.int .i64 (i : Int)] 31 3
          rw [← Hwb.out, ← Hga.out] at hF
          have HFb := Lib.hid hF
          have HBb := Lib.hid (below_step HI9.out (by have h := HFb.out.2.2; rw [Hga.out] at h; exact h))
          have HPa := Lib.hid (repPicked_any [x] (some ⟨ga, 0, none⟩) 1 (by simp) [(i : Int)] (some ⟨ga + 1, 0, none⟩) 1 (by simp) wb (HOne.out wb ga (below_step HBz.out HBb.out) HFb.out.1) (isZ_one HFb.out.2.1))
          have HOki : Hid (pkOk x (i : Int) = true) := Lib.hid (by rw [pkOk_eq, Hv.out, Hcn.out]; simp; omega)
          rw [pickE_one HOki.out, pickF_one HOki.out] at HPa
          clear hF
          go_wp2_with fail
          rw [← Hwb.out, ← Hga.out]
          clear k0 k1
          refine HPa.out.mono ?_
          rintro e wc ⟨va, rfl, hoa, hbc⟩
          have HOa := Lib.hid hoa
          have HBc := Lib.hid (below_step HBb.out hbc)
          clear hoa hbc
          have HG9 := Lib.hid (whole_belowM HWy.out HBc.out)
          have k0 : wc.cell? ⟨g7, 0, none⟩ = some (.slice lo L lc) := HG9.out.cell 0
          have k1 : wc.cell? ⟨g7, 1, none⟩ = some (.bool db) := HG9.out.cell 1
          obtain ⟨gd, Hgd⟩ : ∃ g, Hid (g = wc.heap.size) := ⟨_, Lib.hid rfl⟩
          obtain ⟨wd, Hwd⟩ : ∃ w, Hid (w = (wc.alloc (.cells #[.slice lo L lc, .bool db] 31)).alloc (.cells #[.int .i64 (j : Int)] 3)) := ⟨_, Lib.hid rfl⟩
          have hF := two_newP wc #[.slice lo L lc, .bool db] #[.int .i64 (j : Int)] 31 3
          rw [← Hwd.out, ← Hgd.out] at hF
          have HFd := Lib.hid hF
          have HFdb : Hid (Below wc.heap.size wc wd) := Lib.hid (by have h := HFd.out.2.2; rw [Hgd.out] at h; exact h)
          have HBd := Lib.hid (below_step HBc.out HFdb.out)
          have HPb := Lib.hid (repPicked_any [y] (some ⟨gd, 0, none⟩) 1 (by simp) [(j : Int)] (some ⟨gd + 1, 0, none⟩) 1 (by simp) wd (HOneY.out wd gd HBd.out HFd.out.1) (isZ_one HFd.out.2.1))
          have HOkj : Hid (pkOk y (j : Int) = true) := Lib.hid (by rw [pkOk_eq, Hvy.out, HcnY.out]; simp; omega)
          rw [pickE_one HOkj.out, pickF_one HOkj.out] at HPb
          have HPk : Hid (pk y (j : Int) = pk x (i : Int)) := Lib.hid (by rw [Hy.out]; exact pk_less hij)
          rw [HPk.out] at HPb
          have HOa2 := Lib.hid (HOa.out.below HFdb.out)
          clear hF hij
          go_wp2_with fail
          rw [← Hwd.out, ← Hgd.out]
          clear k0 k1
          refine HPb.out.mono ?_
          rintro e we ⟨vb, rfl, hob, hbe⟩
          have HBe := Lib.hid (below_step HBd.out hbe)
          obtain ⟨pa, ca, rfl, hla⟩ := (HOa2.out.below hbe).isL
          obtain ⟨pb, cb, rfl, hlb⟩ := hob.isL
          have hp1 : (pk x (i : Int)).length ≤ 1000000 := by unfold pk; cases x.opts[((i : Int)).toNat]? <;> simp
          have HSm := Lib.hid (same09_any (pk x (i : Int)) (pk x (i : Int)) hp1 hp1 pa pb ca cb we hla hlb)
          rw [evsB_iff.2 rfl] at HSm
          obtain ⟨pl, Hpl⟩ : ∃ n, Hid (n = (pk x (i : Int)).length) := ⟨_, Lib.hid rfl⟩
          rw [← Hpl.out] at HSm ⊢
          clear hob hbe hla hlb hp1
          go_wp2_with fail
          refine HSm.out.mono ?_
          rintro e wf ⟨rfl, hbf⟩
          have HBf := Lib.hid (below_step HBe.out hbf)
          clear hbf
          go_wp2_with fail
          go_round
          case rel => exact ⟨i + 1, by omega, by go_num, HBf⟩
          case measure => simp [intOf]; omega
        · have hd4 : decide ((k : Int) < i) = false := decide_eq_false (by omega)
          have hilt : i < k := by omega
          have hj2 : i + 1 < cn := by
            have h1 := hcn1
            have h2 : k < n := hkn
            have h3 := HKC.out
            omega
          have HN9 := Lib.hid (whole_belowM HW.out (below_step HBz.out HI9.out))
          have k0 : wr.cell? ⟨N, 0, none⟩ = some (.slice oo n oc) := HN9.out.cell 0
          have k1 : wr.cell? ⟨N, 1, none⟩ = some (.bool db) := HN9.out.cell 1
          obtain ⟨ga, Hga⟩ : ∃ g, Hid (g = wr.heap.size) := ⟨_, Lib.hid rfl⟩
          obtain ⟨wb, Hwb⟩ : ∃ w, Hid (w = (wr.alloc (.cells #[.slice oo n oc, .bool db] 31)).alloc (.cells #[.int .i64 (i : Int)] 3)) := ⟨_, Lib.hid rfl⟩
          have hF := two_newP wr #[.slice oo n oc, .bool db] #[.int .i64 (i : Int)] 31 3
          rw [← Hwb.out, ← Hga.out] at hF
          have HFb := Lib.hid hF
          have HBb := Lib.hid (below_step HI9.out (by have h := HFb.out.2.2; rw [Hga.out] at h; exact h))
          have HPa := Lib.hid (repPicked_any [x] (some ⟨ga, 0, none⟩) 1 (by simp) [(i : Int)] (some ⟨ga + 1, 0, none⟩) 1 (by simp) wb (HOne.out wb ga (below_step HBz.out HBb.out) HFb.out.1) (isZ_one HFb.out.2.1))
          have HOki : Hid (pkOk x (i : Int) = true) := Lib.hid (by rw [pkOk_eq, Hv.out, Hcn.out]; simp; omega)
          rw [pickE_one HOki.out, pickF_one HOki.out] at HPa
          clear hF
          go_wp2_with fail
          rw [← Hwb.out, ← Hga.out]
          clear k0 k1
          refine HPa.out.mono ?_
          rintro e wc ⟨va, rfl, hoa, hbc⟩
          have HOa := Lib.hid hoa
          have HBc := Lib.hid (below_step HBb.out hbc)
          clear hoa hbc
          have HG9 := Lib.hid (whole_belowM HWy.out HBc.out)
          have k0 : wc.cell? ⟨g7, 0, none⟩ = some (.slice lo L lc) := HG9.out.cell 0
          have k1 : wc.cell? ⟨g7, 1, none⟩ = some (.bool db) := HG9.out.cell 1
          obtain ⟨gd, Hgd⟩ : ∃ g, Hid (g = wc.heap.size) := ⟨_, Lib.hid rfl⟩
          obtain ⟨wd, Hwd⟩ : ∃ w, Hid (w = (wc.alloc (.cells #[.slice lo L lc, .bool db] 31)).alloc (.cells #[.int .i64 (i : Int)] 3)) := ⟨_, Lib.hid rfl⟩
          have hF := two_newP wc #[.slice lo L lc, .bool db] #[.int .i64 (i : Int)] 31 3
          rw [← Hwd.out, ← Hgd.out] at hF
          have HFd := Lib.hid hF
          have HFdb : Hid (Below wc.heap.size wc wd) := Lib.hid (by have h := HFd.out.2.2; rw [Hgd.out] at h; exact h)
          have HBd := Lib.hid (below_step HBc.out HFdb.out)
          have HPb := Lib.hid (repPicked_any [y] (some ⟨gd, 0, none⟩) 1 (by simp) [(i : Int)] (some ⟨gd + 1, 0, none⟩) 1 (by simp) wd (HOneY.out wd gd HBd.out HFd.out.1) (isZ_one HFd.out.2.1))
          have HOkj : Hid (pkOk y (i : Int) = true) := Lib.hid (by rw [pkOk_eq, Hvy.out, HcnY.out]; simp; omega)
          rw [pickE_one HOkj.out, pickF_one HOkj.out] at HPb
          have HPk : Hid (pk y (i : Int) = pk x (i : Int)) := Lib.hid (by rw [Hy.out]; exact pk_less (Or.inl ⟨hilt, rfl⟩))
          rw [HPk.out] at HPb
          have HOa2 := Lib.hid (HOa.out.below HFdb.out)
          clear hF
          go_wp2_with fail
          rw [← Hwd.out, ← Hgd.out]
          clear k0 k1
          refine HPb.out.mono ?_
          rintro e we ⟨vb, rfl, hob, hbe⟩
          have HBe := Lib.hid (below_step HBd.out hbe)
          obtain ⟨pa, ca, rfl, hla⟩ := (HOa2.out.below hbe).isL
          obtain ⟨pb, cb, rfl, hlb⟩ := hob.isL
          have hp1 : (pk x (i : Int)).length ≤ 1000000 := by unfold pk; cases x.opts[((i : Int)).toNat]? <;> simp
          have HSm := Lib.hid (same09_any (pk x (i : Int)) (pk x (i : Int)) hp1 hp1 pa pb ca cb we hla hlb)
          rw [evsB_iff.2 rfl] at HSm
          obtain ⟨pl, Hpl⟩ : ∃ n, Hid (n = (pk x (i : Int)).length) := ⟨_, Lib.hid rfl⟩
          rw [← Hpl.out] at HSm ⊢
          clear hob hbe hla hlb hp1
          go_wp2_with fail
          refine HSm.out.mono ?_
          rintro e wf ⟨rfl, hbf⟩
          have HBf := Lib.hid (below_step HBe.out hbf)
          clear hbf
          go_wp2_with fail
          go_round
          case rel => exact ⟨i + 1, by omega, by go_num, HBf⟩
          case measure => simp [intOf]; omega
    · obtain rfl : i = cn := by omega
      have hd2 : decide ((i : Int) < i) = false := decide_eq_false (by omega)
      have HBi := Lib.hid (below_step HBz.out HI9.out)
      have HN9 := Lib.hid (whole_belowM HW.out HBi.out)
      have k0 : wr.cell? ⟨N, 0, none⟩ = some (.slice oo n oc) := HN9.out.cell 0
      have k1 : wr.cell? ⟨N, 1, none⟩ = some (.bool db) := HN9.out.cell 1
      have HNx := Lib.hid (HNm.out wr HBi.out)
      go_wp2_with fail
      refine HNx.out.mono ?_
      rintro e wa ⟨va, rfl, hoa, hba⟩
      have HBa := Lib.hid (below_step HI9.out hba)
      have HSa := Lib.hid (IsS.owns hoa)
      clear hoa hba k0 k1
      have k0 : wa.cell? ⟨g7, 0, none⟩ = some (.slice lo L lc) := (whole_belowM HWy.out HBa.out).cell 0
      have k1 : wa.cell? ⟨g7, 1, none⟩ = some (.bool db) := (whole_belowM HWy.out HBa.out).cell 1
      have HNz := Lib.hid (HNy.out wa HBa.out)
      go_wp2_with fail
      refine HNz.out.mono ?_
      rintro e wb ⟨vb, rfl, hob, hbb⟩
      have HBb := Lib.hid (below_step HBa.out hbb)
      have HSb := Lib.hid (IsS.owns hob)
      have HSa2 := Lib.hid (HSa.out.below hbb)
      clear hob hbb k0 k1
      obtain ⟨es, Hes⟩ : ∃ m, Hid (m = namesR y) := ⟨_, Lib.hid rfl⟩
      obtain ⟨ss, Hss⟩ : ∃ m, Hid (m = namesR x) := ⟨_, Lib.hid rfl⟩
      rw [← Hes.out] at HSb
      rw [← Hss.out] at HSa2
      have HMem : Hid (∀ s ∈ es, s ∈ ss) := Lib.hid (fun s hs => by
        rw [Hss.out]
        rw [Hes.out, Hy.out] at hs
        exact less_names Hv.out s hs)
      have hes8 : es.length ≤ 8 := by rw [Hes.out]; exact namesR_len y
      have hss8 : ss.length ≤ 8 := by rw [Hss.out]; exact namesR_len x
      have HIn := Lib.hid (fun (U : ByteArray) (w : World) (h : Below wb.heap.size wb w) => in_any ss (by omega) U w va (HSa2.out.below h))
      obtain ⟨mm, Hmm⟩ : ∃ m, Hid (m = es.length) := ⟨_, Lib.hid rfl⟩
      obtain ⟨eo, ec, rfl, hens⟩ := HSb.out
      have HEs := Lib.hid hens
      rw [← Hmm.out] at hes8 ⊢
      clear hens hss8
      go_wp2_with fail
      go_loopw [17] (fun i ws => ∃ j : Nat, j ≤ mm ∧ i = .int .i64 j ∧ Hid (Below wb.heap.size wb ws)) (fun i _ => mm - (intOf i).toNat)
      case atStart => exact ⟨0, Nat.zero_le _, by go_num, Lib.hid (Below.refl _ _)⟩
      case round =>
        obtain ⟨j, hj, rfl, HJ⟩ := hrel
        by_cases hjm : j < mm
        · have hd4 : decide ((j : Int) < mm) = true := decide_eq_true (by omega)
          have hj0 : (0 : Int) ≤ j := by omega
          have hj1 : (j : Int) < mm := by omega
          have hjs : j < es.length := by rw [← Hmm.out]; exact hjm
          obtain ⟨be, rfl, hbe, ce⟩ := HEs.out j hjs
          have ce := (cellB HJ.out hbe).trans ce
          obtain ⟨U, HU⟩ : ∃ U : ByteArray, Hid (U = ⟨es[j].toArray⟩) := ⟨_, Lib.hid rfl⟩
          rw [← HU.out] at ce
          have HI8 := Lib.hid (HIn.out U wr HJ.out)
          rw [decide_eq_true (show bts U ∈ ss from by rw [HU.out, bts_mkP]; exact HMem.out _ (List.getElem_mem hjs))] at HI8
          go_wp2_with fail
          refine HI8.out.mono ?_
          rintro e wc ⟨rfl, hbc⟩
          have HBc := Lib.hid (below_step HJ.out hbc)
          clear hbc ce
          go_wp2_with fail
          go_round
          case rel => exact ⟨j + 1, by omega, by go_num, HBc⟩
          case measure => simp [intOf]; omega
        · obtain rfl : j = mm := by omega
          have hd4 : decide ((j : Int) < j) = false := decide_eq_false (by omega)
          have HBe := Lib.hid (below_step HBWz.out (below_step HBb.out HJ.out))
          go_wp2_with fail
          go_ret
          exact ⟨rfl, HBe.out⟩
end Go.Proofs.YtknphmkblcbabaaGreatDoor
