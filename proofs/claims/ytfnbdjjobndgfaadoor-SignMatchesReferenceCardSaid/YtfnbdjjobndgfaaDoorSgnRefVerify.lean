/- The walk of the reference's Verify. -/
import Derived.Test.YtfnbdjjobndgfaaDoorSgnRefC
import Derived.Test.YtfnbdjjobndgfaaDoorSgnForm
namespace Go.Proofs.YtfnbdjjobndgfaaDoor
open Go.RowKit

def endsTo (m : ByteArray) (sig : List ByteArray) (n : Nat) : List ByteArray := (List.range n).map fun k => Sgn.chainV (15 - Sgn.dAt m k) (Sgn.at_ sig k)
theorem endsTo_succ (m : ByteArray) (sig : List ByteArray) (n : Nat) : endsTo m sig (n + 1) = endsTo m sig n ++ [Sgn.chainV (15 - Sgn.dAt m n) (Sgn.at_ sig n)] := by
  unfold endsTo
  rw [List.range_succ, List.map_append]
  rfl
theorem verify_no {pub m : ByteArray} {idx : Int} {sig path : List ByteArray} (h : ¬ (sig.length = 18 ∧ path.length ≤ 8 ∧ 0 ≤ idx ∧ idx < ((2 ^ path.length : Nat) : Int))) : Sgn.verifyB pub m idx sig path = false := by
  cases hv : Sgn.verifyB pub m idx sig path with
  | false => rfl
  | true =>
    obtain ⟨h1, h2, _, _, j, rfl, h3, _⟩ := verify_parts hv
    exact absurd ⟨h1, h2, by omega, by omega⟩ h
theorem verify_bad {pub m : ByteArray} {idx : Int} {sig path : List ByteArray} {s : ByteArray} (hs : s ∈ sig ∨ s ∈ path) (h : Dig.isB s.data.toList = false) : Sgn.verifyB pub m idx sig path = false := by
  cases hv : Sgn.verifyB pub m idx sig path with
  | false => rfl
  | true =>
    obtain ⟨_, _, h1, h2, _⟩ := verify_parts hv
    rcases hs with hs | hs
    · rw [List.all_eq_true.1 h1 s hs] at h; cases h
    · rw [List.all_eq_true.1 h2 s hs] at h; cases h

set_option maxRecDepth 100000 in
set_option maxHeartbeats 4000000 in
theorem refVerify_off (pub m : ByteArray) (idx : Int) (so po : Option Addr) (c1 c2 n p : Nat) (h : ¬ (n = 18 ∧ p ≤ 8 ∧ 0 ≤ idx ∧ idx < ((2 ^ p : Nat) : Int))) (w : World) :
    Calls Tryd.prog 19 #[.string pub, .string m, .agg #[.int .i64 idx, .slice so n c1, .slice po p c2]] w fun e w' => e = .returned (.bool false) ∧ Below w.heap.size w w' := by
  obtain ⟨W0, HW0⟩ : ∃ x, Hid (x = w.alloc (.cells #[.int .i64 idx, .slice so n c1, .slice po p c2] 24)) := ⟨_, Lib.hid rfl⟩
  have HB0 : Hid (Below w.heap.size w W0) := Lib.hid (by rw [HW0.out]; exact (Below.refl _ _).alloc (Nat.le_refl _) _)
  have HA : Hid (Whole W0 w.heap.size 24 #[.int .i64 idx, .slice so n c1, .slice po p c2]) := Lib.hid (by rw [HW0.out]; exact Whole.new _ _ _)
  have e0 : ∀ X : Grown W0, X.w.cell? ⟨w.heap.size, 0, none⟩ = some (.int .i64 idx) := fun X => (seal_cells X.below HA.out).1
  have e1 : ∀ X : Grown W0, X.w.cell? ⟨w.heap.size, 1, none⟩ = some (.slice so n c1) := fun X => (seal_cells X.below HA.out).2.1
  have e2 : ∀ X : Grown W0, X.w.cell? ⟨w.heap.size, 2, none⟩ = some (.slice po p c2) := fun X => (seal_cells X.below HA.out).2.2
  by_cases h1 : n = 18
  · subst h1
    by_cases h2 : p ≤ 8
    · by_cases h3 : idx < 0
      · have d1 : decide ((8 : Int) < p) = false := decide_eq_false (by omega)
        have d1n : decide (8 < p) = false := decide_eq_false (by omega)
        have d2 : decide (idx < 0) = true := decide_eq_true h3
        clear h
        go_enter Tryd.func19, Tryd.ntmps19
        go_wp2_with fail
        rw [← HW0.out]
        refine wp_region_grown (by kernel_rfl) (by kernel_rfl) ?_
        repeat (go_big_quiet_step (fail))
        refine wpQuiet_nil ?_
        rintro _ ⟨X, rfl⟩
        have HX := Lib.hid (below_step HB0.out X.below)
        generalize X.w = W1 at HX ⊢
        go_wp2_with fail
        go_ret
        exact ⟨rfl, HX.out⟩
      · have d1 : decide ((8 : Int) < p) = false := decide_eq_false (by omega)
        have d1n : decide (8 < p) = false := decide_eq_false (by omega)
        have d2 : decide (idx < 0) = false := decide_eq_false h3
        obtain ⟨N, HN⟩ : ∃ N, Hid (N = 2 ^ p) := ⟨_, Lib.hid rfl⟩
        have HPw : Hid (∀ X, Calls Tryd.prog 33 #[.int .i64 p] X fun e w' => e = .returned (.int .i64 (N : Int)) ∧ X = w') := Lib.hid fun X => by rw [HN.out]; exact refPower_any p h2 X
        have d3 : decide ((N : Int) ≤ idx) = true := decide_eq_true (by
          rw [HN.out]
          have : ¬ idx < ((2 ^ p : Nat) : Int) := fun hh => h ⟨rfl, h2, by omega, hh⟩
          omega)
        clear h
        go_enter Tryd.func19, Tryd.ntmps19
        go_wp2_with fail
        rw [← HW0.out]
        refine wp_region_grown (by kernel_rfl) (by kernel_rfl) ?_
        repeat (go_big_quiet_step (exact grown_of_same (HPw.out _)))
        refine wpQuiet_nil ?_
        rintro _ ⟨X, rfl⟩
        have HX := Lib.hid (below_step HB0.out X.below)
        generalize X.w = W1 at HX ⊢
        go_wp2_with fail
        go_ret
        exact ⟨rfl, HX.out⟩
    · have d1 : decide ((8 : Int) < p) = true := decide_eq_true (by omega)
      have d1n : decide (8 < p) = true := decide_eq_true (by omega)
      clear h
      go_enter Tryd.func19, Tryd.ntmps19
      go_wp2_with fail
      rw [← HW0.out]
      refine wp_region_grown (by kernel_rfl) (by kernel_rfl) ?_
      repeat (go_big_quiet_step (fail))
      refine wpQuiet_nil ?_
      rintro _ ⟨X, rfl⟩
      have HX := Lib.hid (below_step HB0.out X.below)
      generalize X.w = W1 at HX ⊢
      go_wp2_with fail
      go_ret
      exact ⟨rfl, HX.out⟩
  · have d1 : ¬ (n : Int) = 18 := by omega
    have d1n : decide ((n : Int) = 18) = false := decide_eq_false d1
    have d1m : ((n : Int) == 18) = false := by simp; omega
    have d1o : ((n : Int) != 18) = true := by simp; omega
    have d1p : (n != 18) = true := by simp; omega
    have d1q : (n == 18) = false := by simp; omega
    clear h
    go_enter Tryd.func19, Tryd.ntmps19
    go_wp2_with fail
    rw [← HW0.out]
    refine wp_region_grown (by kernel_rfl) (by kernel_rfl) ?_
    repeat (go_big_quiet_step (fail))
    refine wpQuiet_nil ?_
    rintro _ ⟨X, rfl⟩
    have HX := Lib.hid (below_step HB0.out X.below)
    generalize X.w = W1 at HX ⊢
    go_wp2_with fail
    go_ret
    exact ⟨rfl, HX.out⟩

set_option maxRecDepth 100000 in
set_option maxHeartbeats 8000000 in
theorem refVerify_on (pub m : ByteArray) (hm : m.size ≤ 140737488351232) (j : Nat) (so po : Option Addr) (c1 c2 : Nat) (sig path : List ByteArray) (h18 : sig.length = 18) (h8 : path.length ≤ 8) (hj : j < 2 ^ path.length)
    (hz1 : ∀ s ∈ sig, s.size ≤ 300) (hz2 : ∀ s ∈ path, s.size ≤ 300) (w : World) (h1 : IsStrs w so sig) (h2 : IsStrs w po path) :
    Calls Tryd.prog 19 #[.string pub, .string m, .agg #[.int .i64 j, .slice so 18 c1, .slice po path.length c2]] w fun e w' => e = .returned (.bool (Sgn.verifyB pub m j sig path)) ∧ Below w.heap.size w w' := by
  obtain ⟨i1, hi1, hy0, hy1, hy2⟩ := info_parts info_str
  obtain ⟨p, Hp⟩ : ∃ p, Hid (p = path.length) := ⟨_, Lib.hid rfl⟩
  obtain ⟨r, Hr⟩ : ∃ r, Hid (r = Sgn.verifyB pub m j sig path) := ⟨_, Lib.hid rfl⟩
  have HDi := Lib.hid fun (X : World) => refDig_any m hm X
  have HS1 := Lib.hid h1
  have HS2 := Lib.hid h2
  have HZ1 := Lib.hid hz1
  have HZ2 := Lib.hid hz2
  have HL := Lib.hid h18
  rw [← Hr.out, ← Hp.out]
  rw [← Hp.out] at h8 hj
  obtain ⟨N, HN⟩ : ∃ N, Hid (N = 2 ^ p) := ⟨_, Lib.hid rfl⟩
  have HPw : Hid (∀ X, Calls Tryd.prog 33 #[.int .i64 p] X fun e w' => e = .returned (.int .i64 (N : Int)) ∧ X = w') := Lib.hid fun X => by rw [HN.out]; exact refPower_any p h8 X
  rw [← HN.out] at hj
  have hN2 : N ≤ 256 := by rw [HN.out]; exact Nat.pow_le_pow_right (by decide) h8
  have d1 : decide ((8 : Int) < p) = false := decide_eq_false (by omega)
  have d1n : decide (8 < p) = false := decide_eq_false (by omega)
  have d2 : decide ((j : Int) < 0) = false := decide_eq_false (by omega)
  have d3 : decide ((N : Int) ≤ j) = false := decide_eq_false (by omega)
  have d3n : decide (N ≤ j) = false := decide_eq_false (by omega)
  obtain ⟨W0, HW0⟩ : ∃ x, Hid (x = w.alloc (.cells #[.int .i64 j, .slice so 18 c1, .slice po p c2] 24)) := ⟨_, Lib.hid rfl⟩
  have HB0 : Hid (Below w.heap.size w W0) := Lib.hid (by rw [HW0.out]; exact (Below.refl _ _).alloc (Nat.le_refl _) _)
  have HA : Hid (Whole W0 w.heap.size 24 #[.int .i64 j, .slice so 18 c1, .slice po p c2]) := Lib.hid (by rw [HW0.out]; exact Whole.new _ _ _)
  have e0 : ∀ X : Grown W0, X.w.cell? ⟨w.heap.size, 0, none⟩ = some (.int .i64 j) := fun X => (seal_cells X.below HA.out).1
  have e1 : ∀ X : Grown W0, X.w.cell? ⟨w.heap.size, 1, none⟩ = some (.slice so 18 c1) := fun X => (seal_cells X.below HA.out).2.1
  have e2 : ∀ X : Grown W0, X.w.cell? ⟨w.heap.size, 2, none⟩ = some (.slice po p c2) := fun X => (seal_cells X.below HA.out).2.2
  clear h1 h2 hz1 hz2 h18 hm
  go_enter Tryd.func19, Tryd.ntmps19
  go_wp2_with fail
  rw [← HW0.out]
  refine wp_region_grown (by kernel_rfl) (by kernel_rfl) ?_
  repeat (go_big_quiet_step (exact grown_of_same (HPw.out _)))
  refine wpQuiet_nil ?_
  rintro _ ⟨X, rfl⟩
  have HX0 := Lib.hid X.below
  clear e0 e1 e2 d1 d1n d2 d3 d3n
  generalize X.w = W1 at HX0 ⊢
  go_wp2_with fail
  refine (HDi.out _).mono ?_
  rintro e W2 ⟨gd, cd, rfl, hdg, hb⟩
  have HDg := Lib.hid hdg
  have HB02 := Lib.hid (below_step HX0.out hb)
  have HB2 := Lib.hid (below_step HB0.out HB02.out)
  clear hb hdg
  obtain ⟨B, HBq⟩ : ∃ x, Hid (x = w.heap.size) := ⟨_, Lib.hid rfl⟩
  have HA2 : Hid (Whole W2 B 24 #[.int .i64 j, .slice so 18 c1, .slice po p c2]) := Lib.hid (by rw [HBq.out]; exact (HB02.out.block _ HA.out.lt).trans HA.out)
  rw [← HBq.out]
  go_wp2_with fail
  go_loopw [8, 9] (fun o i wr => ∃ n : Nat, n ≤ 18 ∧ i = .int .i64 n ∧ ∃ eo ec, o = .slice eo n ec ∧ Hid (Below W2.heap.size W2 wr ∧ wr.ownsRow W2.heap.size 9 1 (.slice eo n ec) n (strC (endsTo m sig n))) ∧ Hid (∀ q, (hq : q < sig.length) → q < n → Dig.isB sig[q].data.toList = true)) (fun _ i _ => 18 - (intOf i).toNat)
  case atStart => exact ⟨0, by omega, rfl, none, 0, rfl, Lib.hid ⟨Below.refl _ _, World.ownsRow_nil _ _ _ _⟩, Lib.hid fun q _ h => by omega⟩
  case round =>
    obtain ⟨n, hn, rfl, eo, ec, rfl, HE, HD⟩ := hrel
    obtain ⟨k0, k1, k2⟩ := seal_cells HE.out.1 HA2.out
    have HBw : Hid (Below w.heap.size w wr) := Lib.hid (below_step HB2.out HE.out.1)
    by_cases hlt : n < 18
    · have hlt' : (n : Int) < 18 := by omega
      have hns : n < sig.length := by rw [HL.out]; exact hlt
      obtain ⟨bk, off, rfl, hbk, hc⟩ := strs_at (HS1.out.below HBw.out) hns
      have d1 := hc n hns
      obtain ⟨s, Hs⟩ : ∃ s, Hid (s = sig[n]) := ⟨_, Lib.hid rfl⟩
      rw [← Hs.out] at d1
      have hsz : s.size ≤ 300 := by rw [Hs.out]; exact HZ1.out _ (List.getElem_mem _)
      have HI : Hid (∀ X, Calls Tryd.prog 41 #[.string s] X fun e w' => e = .returned (.bool (Dig.isB s.data.toList)) ∧ X = w') := Lib.hid fun X => refIs_any s (by omega) X
      obtain ⟨b, Hb⟩ : ∃ b, Hid (b = Dig.isB s.data.toList) := ⟨_, Lib.hid rfl⟩
      rw [← Hb.out] at HI
      clear hc
      cases b with
      | false =>
        have HE2 : Hid (r = false) := Lib.hid (by rw [Hr.out]; exact verify_bad (Or.inl (by rw [Hs.out]; exact List.getElem_mem _)) Hb.out.symm)
        go_wp2_with fail
        refine (HI.out _).mono ?_
        rintro e _ ⟨rfl, rfl⟩
        go_wp2_with fail
        go_ret
        exact ⟨ret_bool HE2.out.symm, HBw.out⟩
      | true =>
        obtain ⟨d, Hd⟩ : ∃ x, Hid (x = Sgn.dAt m n) := ⟨_, Lib.hid rfl⟩
        have hd15 : d ≤ 15 := by rw [Hd.out]; exact Sgn.dAt_le _ _
        have d2 : wr.cell? ⟨gd, n, none⟩ = some (.int .i64 (d : Int)) := by
          rw [HE.out.1.cell (p := ⟨gd, n, none⟩) HDg.out.1, HDg.out.2 n hlt, Hd.out]
        have f1 : ∀ X : Grown wr, X.w.cell? ⟨B, 1, none⟩ = some (.slice (some ⟨bk, off, none⟩) 18 c1) := fun X => (X.cell (lt_of_cell k1)).trans k1
        have f2 : ∀ X : Grown wr, X.w.cell? ⟨bk, off + n, none⟩ = some (.string s) := fun X => (X.cell hbk).trans d1
        have f3 : ∀ X : Grown wr, X.w.cell? ⟨gd, n, none⟩ = some (.int .i64 (d : Int)) := fun X => (X.cell (lt_of_cell d2)).trans d2
        obtain ⟨cv, Hcv⟩ : ∃ y, Hid (y = Sgn.chainV (15 - d) s) := ⟨_, Lib.hid rfl⟩
        have HCh : Hid (∀ X, Calls Tryd.prog 35 #[.string s, .int .i64 (15 - (d : Int))] X fun e w' => e = .returned (.string cv) ∧ X = w') := Lib.hid fun X => by
          have := refChain_any s (by omega) (15 - d) (by omega) X
          rw [Hcv.out]
          rwa [show ((15 - d : Nat) : Int) = 15 - (d : Int) by omega] at this
        go_wp2_with fail
        refine (HI.out _).mono ?_
        rintro e _ ⟨rfl, rfl⟩
        clear d1 d2
        go_wp2_with fail
        refine (wpIn_wide (n := 1)).1 ?_
        refine wpIn_region_calm [0, 1, 2, 3, 4, 5, 6, 7, 8, 9, 10] [11, 12, 13, 14] [13, 14] (fun w' => ∃ X : Grown wr, w' = X.w) (by kernel_rfl) (by kernel_rfl) rfl (by kernel_rfl) (by kernel_rfl) ⟨⟨wr.drew, (Below.refl _ _).drew⟩, rfl⟩ ?_
        simp only [List.filterMap_cons, List.filterMap_nil, List.getElem?_toArray, List.getElem?_cons_zero, List.getElem?_cons_succ]
        refine (show wpQuiet _ _ _ _ (_ :: _ :: _ :: _ :: _ :: _ :: _ :: _ :: _ :: _ :: _ :: []) _ from ?_)
        repeat (go_big_quiet_step (fail))
        refine wpQuiet_nil ?_
        refine wpTail_cons rfl rfl fun K hK => ?_
        go_simp
        refine ⟨trivial, ?_⟩
        refine (callsIn_wide.2 (HCh.out wr.drew)).mono ?_
        rintro e _ ⟨rfl, rfl⟩
        refine hK _ _ (fun _ => ⟨⟨wr.drew, (Below.refl _ _).drew⟩, rfl⟩) ?_
        clear hK K
        refine wpTail_cons rfl rfl fun K hK => ?_
        go_simp
        refine hK _ _ (fun _ => ⟨⟨wr.drew.alloc (.cells #[.string cv] 9), (Below.refl _ _).drew.alloc (Nat.le_refl _) _⟩, rfl⟩) ?_
        clear hK K
        have HR1 : Hid (wr.drew.ownsRow W2.heap.size 9 1 (.slice eo n ec) n (strC (endsTo m sig n))) := Lib.hid HE.out.2
        have HNw := Lib.hid (newCell wr.drew cv)
        refine wpTail_cons rfl rfl fun K hK => ?_
        refine wpIn_append_lies _ (.tmp 51) (.tmp 63) 22 rfl W2.heap.size 9 i1 (.string ⟨#[]⟩) 1 16 Tryd.underlying22 hi1 hy0 hy1 hy2 rfl (by decide) (.slice eo n ec) n (strC (endsTo m sig n)) (by simp [Act.eval]) (HR1.out.alloc _) ⟨wr.drew.heap.size, 0, none⟩ 1 1 [.string cv] (by simp [Act.eval]) rfl HNw.out (by simp [Value.oneCell']) (by decide) (by unfold maxLen; omega) (by omega) (by show W2.heap.size ≤ (wr.alloc _).heap.size; rw [size_alloc]; have := HE.out.1.size; omega) ?_
        intro g' cap' w10 hown hgrow _ _
        refine hK _ _ (fun h => absurd h (by decide)) ?_
        clear hK K f1 f2 f3
        have HO := Lib.hid hown
        have HG := Lib.hid hgrow
        clear hown hgrow
        refine wpTail_cons rfl rfl fun K hK => ?_
        go_simp
        refine hK _ _ (fun h => absurd h (by decide)) ?_
        clear hK K
        refine wpTail_calm ?_
        go_wp2_with fail
        go_roundw
        case rel =>
          refine ⟨n + 1, by omega, by go_num, some ⟨g', 0, none⟩, cap', rfl, Lib.hid ⟨?_, ?_⟩, Lib.hid fun q hq h => ?_⟩
          · exact ((HE.out.1.drew.alloc HE.out.1.size _).grown HG.out (by show _ ≤ (wr.alloc _).heap.size; rw [size_alloc]; have := HE.out.1.size; omega) (fun j e => (HR1.out.lt j e).1))
          · have e : strC (endsTo m sig (n + 1)) = strC (endsTo m sig n) ++ [.string cv] := by rw [endsTo_succ, strC_snoc, Hcv.out, Hd.out, Hs.out, Sgn.at_get hns]
            rw [e]
            exact HO.out
          · by_cases e : q = n
            · subst e; rw [← Hs.out, ← Hb.out]
            · exact HD.out q hq (by omega)
        case measure => simp [intOf]; omega
    · obtain rfl : n = 18 := by omega
      go_wp2_with fail
      try simp only [show ((18 : Nat) : Int) = 18 from rfl]
      go_loop [10] (fun i => ∃ k : Nat, k ≤ p ∧ i = .int .i64 k ∧ Hid (∀ q, (hq : q < path.length) → q < k → Dig.isB path[q].data.toList = true)) (fun i => p - (intOf i).toNat)
      case atStart => exact ⟨0, by omega, rfl, Lib.hid fun q _ h => by omega⟩
      case round =>
        obtain ⟨k, hk, rfl, HQ⟩ := hrel
        by_cases hlt : k < p
        · have hlt' : (k : Int) < p := by omega
          have hks : k < path.length := by rw [← Hp.out]; exact hlt
          obtain ⟨bk, off, rfl, hbk, hc⟩ := strs_at (HS2.out.below HBw.out) hks
          have d1 := hc k hks
          obtain ⟨s, Hs⟩ : ∃ s, Hid (s = path[k]) := ⟨_, Lib.hid rfl⟩
          rw [← Hs.out] at d1
          have hsz : s.size ≤ 300 := by rw [Hs.out]; exact HZ2.out _ (List.getElem_mem _)
          have HI : Hid (∀ X, Calls Tryd.prog 41 #[.string s] X fun e w' => e = .returned (.bool (Dig.isB s.data.toList)) ∧ X = w') := Lib.hid fun X => refIs_any s (by omega) X
          obtain ⟨b, Hb⟩ : ∃ b, Hid (b = Dig.isB s.data.toList) := ⟨_, Lib.hid rfl⟩
          rw [← Hb.out] at HI
          clear hc
          cases b with
          | false =>
            have HE2 : Hid (r = false) := Lib.hid (by rw [Hr.out]; exact verify_bad (Or.inr (by rw [Hs.out]; exact List.getElem_mem _)) Hb.out.symm)
            go_wp2_with fail
            refine (HI.out _).mono ?_
            rintro e _ ⟨rfl, rfl⟩
            go_wp2_with fail
            go_ret
            exact ⟨ret_bool HE2.out.symm, HBw.out⟩
          | true =>
            go_wp2_with fail
            refine (HI.out _).mono ?_
            rintro e _ ⟨rfl, rfl⟩
            go_wp2
            go_round
            case rel => exact ⟨k + 1, by omega, by go_num, Lib.hid fun q h1 h2 => by
              by_cases e : q = k
              · subst e; rw [← Hs.out, ← Hb.out]
              · exact HQ.out q h1 (by omega)⟩
            case measure => simp [intOf]; omega
        · obtain rfl : p = k := by omega
          have hsz : ∀ s ∈ endsTo m sig 18, s.size ≤ 300 := fun s hs => by
            obtain ⟨q, hq, rfl⟩ := List.mem_map.1 hs
            have hq' : q < sig.length := by rw [HL.out]; exact List.mem_range.1 hq
            rw [chain15_size _ _ (by rw [Sgn.at_get hq']; exact (Sgn.isB_parts (HD.out q hq' (by have := List.mem_range.1 hq; omega))).1)]
            decide
          have hL := refList_any eo (endsTo m sig 18) ec wr (strs_of_row HE.out.2 (by simp [endsTo])) (fewE hsz (by simp [endsTo]))
          rw [show (endsTo m sig 18).length = 18 by simp [endsTo]] at hL
          obtain ⟨kv, Hkv⟩ : ∃ x, Hid (x = Sgn.lst (Sgn.endsOf m sig)) := ⟨_, Lib.hid rfl⟩
          have ek : digestOf (joinText (bytesOf (endsTo m sig 18))) = kv := by rw [Hkv.out]; rfl
          rw [ek] at hL
          have HKey := Lib.hid hL
          have HF : Hid (r = decide (Sgn.rootOf m j sig path = pub)) := Lib.hid (by
            have a1 : (sig.all fun s => Dig.isB s.data.toList) = true := List.all_eq_true.2 fun s hs => by
              obtain ⟨q, hq, rfl⟩ := List.getElem_of_mem hs
              exact HD.out q hq (by have := HL.out; omega)
            have a2 : (path.all fun s => Dig.isB s.data.toList) = true := List.all_eq_true.2 fun s hs => by
              obtain ⟨q, hq, rfl⟩ := List.getElem_of_mem hs
              exact HQ.out q hq (by rw [Hp.out]; exact hq)
            have a3 : Sgn.formB (j : Int) sig path = true := by
              unfold Sgn.formB
              rw [a1, a2, decide_eq_true HL.out, decide_eq_true (show path.length ≤ 8 by rw [← Hp.out]; exact h8), decide_eq_true (show (0 : Int) ≤ j by omega), decide_eq_true (show (j : Int) < ((2 ^ path.length : Nat) : Int) by rw [← Hp.out, ← HN.out]; omega)]
              rfl
            rw [Hr.out]
            unfold Sgn.verifyB
            rw [a3, Bool.true_and, Int.toNat_natCast])
          clear hsz hL ek
          go_wp2_with fail
          refine HKey.out.mono ?_
          rintro e w3 ⟨rfl, hb⟩
          have HB23 : Hid (Below W2.heap.size W2 w3) := Lib.hid (below_step HE.out.1 hb)
          have HBw3 : Hid (Below w.heap.size w w3) := Lib.hid (below_step HB2.out HB23.out)
          clear hb k0 k1 k2
          obtain ⟨k0, k1, k2⟩ := seal_cells HB23.out HA2.out
          go_wp2_with fail
          obtain ⟨wo, rfl⟩ : ∃ x, x = wr := ⟨_, rfl⟩
          go_loopw [11, 12, 13] (fun a i k wq => ∃ q : Nat, q ≤ p ∧ k = .int .i64 q ∧ ∃ z : Nat, i = .int .i64 z ∧ z ≤ 256 ∧ Hid (z = j / 2 ^ q) ∧ ∃ x, a = .string x ∧ Hid (x = Sgn.climbUp j path kv q ∧ x.size = 16) ∧ Hid (Below w3.heap.size w3 wq)) (fun _ _ k _ => p - (intOf k).toNat)
          case atStart => exact ⟨0, by omega, rfl, j, rfl, by omega, Lib.hid (by simp), kv, rfl, Lib.hid ⟨rfl, by rw [Hkv.out]; exact Sgn.lst_size _⟩, Lib.hid (Below.refl _ _)⟩
          case round =>
            obtain ⟨q, hq, rfl, z, rfl, hz, HZ, x, rfl, HX, HB⟩ := hrel
            obtain ⟨k0, k1, k2⟩ := seal_cells (below_step HB23.out HB.out) HA2.out
            have HBz : Hid (Below w.heap.size w wr) := Lib.hid (below_step HBw3.out HB.out)
            by_cases hlt : q < p
            · have hlt' : (q : Int) < p := by omega
              have hks : q < path.length := by rw [← Hp.out]; exact hlt
              obtain ⟨bk, off, rfl, hbk, hc⟩ := strs_at (HS2.out.below HBz.out) hks
              have d1 := hc q hks
              obtain ⟨ot, Hot⟩ : ∃ s, Hid (s = path[q]) := ⟨_, Lib.hid rfl⟩
              rw [← Hot.out] at d1
              have hso : ot.size ≤ 300 := by rw [Hot.out]; exact HZ2.out _ (List.getElem_mem _)
              have hxs : x.size ≤ 300 := by rw [HX.out.2]; decide
              have HZ2 : Hid (z / 2 = j / 2 ^ (q + 1)) := Lib.hid (by rw [HZ.out, Nat.pow_succ, Nat.div_div_eq_div_mul])
              obtain ⟨nv, Hnv⟩ : ∃ y, Hid (y = Sgn.climbUp j path kv (q + 1)) := ⟨_, Lib.hid rfl⟩
              have hnv : nv = (if z % 2 = 1 then Sgn.nodeV ot x else Sgn.nodeV x ot) := by
                rw [Hnv.out, HZ.out, HX.out.1, Hot.out, ← Sgn.at_get hks]
                rfl
              have HNs : Hid (nv.size = 16) := Lib.hid (by rw [hnv]; split <;> exact Sgn.lst_size _)
              clear hc
              by_cases hb : z % 2 = 1
              · have HPr : Hid (∀ X, Calls Tryd.prog 43 #[.string x, .string ot, .bool true] X fun e w' => e = .returned (.string nv) ∧ Below X.heap.size X w') := Lib.hid fun X => by
                  have := refParent_any x ot hxs hso true X
                  rw [if_pos rfl] at this
                  rw [hnv, if_pos hb]
                  exact this
                have b1 : (((z : Int) % 2) == 1) = true := by simp; omega
                have b2 : (z : Int) % 2 = 1 := by omega
                clear hnv hb hxs
                go_wp2_with fail
                refine (HPr.out _).mono ?_
                rintro e w5 ⟨rfl, hb⟩
                have HB5 := Lib.hid (below_step HB.out hb)
                clear hb
                go_wp2
                go_roundw
                case rel => exact ⟨q + 1, by omega, by go_num, z / 2, by go_num, by omega, HZ2, nv, rfl, Lib.hid ⟨Hnv.out, HNs.out⟩, HB5⟩
                case measure => simp [intOf]; omega
              · have HPr : Hid (∀ X, Calls Tryd.prog 43 #[.string x, .string ot, .bool false] X fun e w' => e = .returned (.string nv) ∧ Below X.heap.size X w') := Lib.hid fun X => by
                  have := refParent_any x ot hxs hso false X
                  rw [if_neg (by decide)] at this
                  rw [hnv, if_neg hb]
                  exact this
                have b1 : (((z : Int) % 2) == 1) = false := by simp; omega
                have b2 : (z : Int) % 2 = 0 := by omega
                clear hnv hb hxs
                go_wp2_with fail
                refine (HPr.out _).mono ?_
                rintro e w5 ⟨rfl, hb⟩
                have HB5 := Lib.hid (below_step HB.out hb)
                clear hb
                go_wp2
                go_roundw
                case rel => exact ⟨q + 1, by omega, by go_num, z / 2, by go_num, by omega, HZ2, nv, rfl, Lib.hid ⟨Hnv.out, HNs.out⟩, HB5⟩
                case measure => simp [intOf]; omega
            · obtain rfl : p = q := by omega
              have HFx : Hid (r = decide (x = pub)) := Lib.hid (by
                rw [HF.out, HX.out.1]
                unfold Sgn.rootOf
                rw [← Hp.out, ← Hkv.out])
              have hbq : (x.toList == pub.toList) = decide (x = pub) := by
                by_cases h : x = pub
                · rw [decide_eq_true h, h]; exact beq_self_eq_true _
                · rw [decide_eq_false h]; exact (Lib.bytes_beq_false_iff _ _).2 h
              go_wp2_with fail
              go_ret
              exact ⟨ret_bool (by rw [HFx.out] <;> first | exact hbq | rfl), HBz.out⟩

theorem refVerify_any (pub m : ByteArray) (hm : m.size ≤ 140737488351232) (idx : Int) (so po : Option Addr) (c1 c2 : Nat) (sig path : List ByteArray)
    (hz1 : ∀ s ∈ sig, s.size ≤ 300) (hz2 : ∀ s ∈ path, s.size ≤ 300) (w : World) (h1 : IsStrs w so sig) (h2 : IsStrs w po path) :
    Calls Tryd.prog 19 #[.string pub, .string m, .agg #[.int .i64 idx, .slice so sig.length c1, .slice po path.length c2]] w fun e w' => e = .returned (.bool (Sgn.verifyB pub m idx sig path)) ∧ Below w.heap.size w w' := by
  by_cases h : sig.length = 18 ∧ path.length ≤ 8 ∧ 0 ≤ idx ∧ idx < ((2 ^ path.length : Nat) : Int)
  · obtain ⟨g1, g2, g3, g4⟩ := h
    obtain ⟨j, rfl⟩ : ∃ j : Nat, idx = j := ⟨idx.toNat, by omega⟩
    rw [g1]
    exact refVerify_on pub m hm j so po c1 c2 sig path g1 g2 (by omega) hz1 hz2 w h1 h2
  · rw [verify_no h]
    exact refVerify_off pub m idx so po c1 c2 sig.length path.length h w

end Go.Proofs.YtfnbdjjobndgfaaDoor
