/- HoldBacks. -/
import Derived.Test.YtfokbcakbbdlaaaHldNobody
import Derived.Test.YtfokbcakbbdlaaaHldNames
import Derived.Test.YtfokbcakbbdlaaaHldAgain
import Derived.Test.YtfokbcakbbdlaaaHldBackT
import Derived.Test.YtfokbcakbbdlaaaHldRefM
import Derived.Test.YtfokbcakbbdlaaaEntMono
namespace Go.Proofs.Ytfokbcakbbdlaaa
open Go.RowKit
open Hld (Rc Hd)

namespace Hld
theorem gv_twice (r : Rc) (h : Hd) : gv r (gv r h) = gv r h := by
  unfold gv
  by_cases h6 : r.kind = 6
  · rw [if_pos h6, if_pos h6]
    by_cases hg : gives r h = true
    · have e : give r h = { h with back := h.back ++ [r.author] } := by unfold give; rw [if_pos hg]
      rw [e]
      unfold give
      rw [if_neg]
      unfold gives
      simp
    · have e : give r h = h := by unfold give; rw [if_neg hg]
      rw [e, e]
  · rw [if_neg h6, if_neg h6]
theorem all_more {P : List (ByteArray × Rc)} {x : ByteArray × Rc} (h5 : x.2.kind ≠ 5) : allF (P ++ [x]) = (allF P).map (gv x.2) := by
  rw [allF_snoc, step_gv]
  have : makes x.2 = false := by unfold makes; rw [decide_eq_false h5]; rfl
  rw [this]
  simp
theorem all_twice {P : List (ByteArray × Rc)} {x : ByteArray × Rc} (h5 : x.2.kind ≠ 5) : allF (P ++ [x] ++ [x]) = allF (P ++ [x]) := by
  rw [all_more h5, all_more h5, List.map_map]
  apply List.map_congr_left
  intro h _
  exact gv_twice x.2 h
end Hld

set_option maxRecDepth 100000 in
set_option maxHeartbeats 16000000 in
theorem backs_any (ids : List ByteArray) (recs : List Rc) (x : Rc) (id : ByteArray) (hid9 : id.size ≤ 9223372036854775807) (io ro : Option Addr) (ic rc : Nat) (hn : recs.length * 480 ≤ 140737488351232) (hm : ids.length * 16 ≤ 140737488351232) (W : World) (hi : IsStrs W io ids) (hr : IsRecs W ro recs) (hx : RcOk x) (hxm : IsInts W x.mo x.members) :
    Calls Try.prog 4 #[.slice io ids.length ic, .slice ro recs.length rc, .agg x.cells.toArray, .string id] W fun e w' => e = .returned (.bool true) ∧ Below W.heap.size W w' := by
  obtain ⟨i1, hi1, hy0, hy1, hy2⟩ := info_parts info_str
  have HFew := Lib.hid (fun (io2 ro2 : Option Addr) (ic2 rc2 : Nat) W1 h1 h2 => few_any (ids ++ [id]) (recs ++ [x]) io2 ro2 ic2 rc2 (by rw [List.length_append]; simp; omega) (by rw [List.length_append]; simp; omega) W1 h1 h2)
  have HI := Lib.hid hi
  have HR := Lib.hid hr
  have HOk := Lib.hid hx
  have HXm := Lib.hid hxm
  have HAll := Lib.hid (@all_rows ids recs io ro ic rc)
  clear hi hr hx hxm
  obtain ⟨n, Hn⟩ : ∃ n, Hid (n = recs.length) := ⟨_, Lib.hid rfl⟩
  obtain ⟨m, Hm⟩ : ∃ n, Hid (n = ids.length) := ⟨_, Lib.hid rfl⟩
  rw [← Hn.out] at hn
  rw [← Hm.out] at hm
  have hbytes : n * 480 ≤ 140737488351232 := hn
  rw [← Hn.out, ← Hm.out]
  go_enter Try.func4, Try.ntmps4
  go_wp2_with fail
  obtain ⟨gx, Hgx⟩ : ∃ g, Hid (g = W.heap.size) := ⟨_, Lib.hid rfl⟩
  obtain ⟨W0, HW0⟩ : ∃ w, Hid (w = W.alloc (.cells x.cells.toArray 54)) := ⟨_, Lib.hid rfl⟩
  have HBx0 : Hid (Whole W0 gx 54 x.cells.toArray) := Lib.hid (by rw [HW0.out, Hgx.out]; exact Whole.new _ _ _)
  have HB0 : Hid (Below W.heap.size W W0) := Lib.hid (by rw [HW0.out]; exact (Below.refl _ _).alloc (Nat.le_refl _) _)
  rw [← HW0.out, ← Hgx.out]
  refine (head_any W0).mono ?_
  rintro e V ⟨rfl, hb1⟩
  have HBox := Lib.hid (whole_below HBx0.out hb1)
  have HBV := Lib.hid (below_step HB0.out hb1)
  have HRV := Lib.hid (HR.out.below HBV.out)
  clear hb1
  go_wp2_with fail
  apply wp_region_ent 132 (CpT V x recs n ro rc) (by kernel_rfl) (by kernel_rfl) rfl CpT.start
  · intro j o ho e w A' hT hej hwt hsee haway
    have h6 : A'.eval (.tmp 6) = .pointer (some ⟨gx, 0, none⟩) := (haway 6 (by kernel_rfl)).trans rfl
    have h1 : A'.eval (.tmp 1) = .slice ro n rc := (haway 1 (by kernel_rfl)).trans rfl
    have HWx := whole_below HBox.out hT.below
    have hj : j < 7 := by have := (List.getElem?_eq_some_iff.1 ho).1; simpa using this
    have hj : j = 0 ∨ j = 1 ∨ j = 2 ∨ j = 3 ∨ j = 4 ∨ j = 5 ∨ j = 6 := by omega
    rcases hj with rfl | rfl | rfl | rfl | rfl | rfl | rfl
    all_goals
      simp only [List.getElem?_cons_succ, List.getElem?_cons_zero, Option.some.injEq] at ho
      subst ho
    · exact wp_of_run (run_empty_recs _ _ _ _ _ _ _) ⟨_, rfl, hT.step (by decide) ((Below.refl _ _).alloc (Nat.le_refl _) _) ⟨_, rfl, hT.below.size, Whole.new _ _ _⟩⟩
    · exact wp_of_run (run_move _ _ _ _ _ _ _ 1 _ h1) ⟨_, rfl, hT.step (by decide) (Below.refl _ _) rfl⟩
    · have e0 := hsee 18 (by decide) 0 rfl
      have e1 := hsee 19 (by decide) 1 rfl
      by_cases h5 : e 5 = none
      · obtain ⟨g0, q1, q2, q3⟩ := hT.each h5 0 _ e0
        have q4 := hT.each h5 1 _ e1
        obtain ⟨v, w', hr, r1, r2⟩ := run_copy_recs 23 g0 q3 V.heap.size q2 recs n Hn.out hbytes ro rc (HRV.out.below hT.below)
        exact wp_of_run (run_append_rec _ _ _ _ _ _ _ w' 18 19 _ _ _ q1 q4 hr) ⟨_, rfl, hT.step (by decide) r2 r1⟩
      · exact absurd (hT.two h5).1 (by rw [hej]; simp)
    · exact wp_of_run (run_load_rec _ _ _ _ _ _ _ 6 gx x HOk.out h6 HWx) ⟨_, rfl, hT.step (by decide) (Below.refl _ _) rfl⟩
    · have e3 := hsee 21 (by decide) 3 rfl
      by_cases h5 : e 5 = none
      · have q := hT.each h5 3 _ e3
        exact wp_of_run (run_one_rec _ _ _ _ _ _ _ 21 x.cells HOk.out.len q) ⟨_, rfl, hT.step (by decide) ((Below.refl _ _).alloc (Nat.le_refl _) _) ⟨_, rfl, Whole.new _ _ _⟩⟩
      · exact absurd (hT.two h5).2 (by rw [hej]; simp)
    · have e2 := hsee 20 (by decide) 2 rfl
      have e4 := hsee 22 (by decide) 4 rfl
      have q2 := hT.each hej 2 _ e2
      obtain ⟨g, q4, q5⟩ := hT.each hej 4 _ e4
      obtain ⟨v, w', hr, r1, r2⟩ := cp_append 23 HOk.out hbytes hT.below q2 q5
      exact wp_of_run (run_append_rec _ _ _ _ _ _ _ w' 20 22 _ _ _ rfl q4 hr) ⟨_, rfl, hT.grow hej (by rw [e2]; simp) (by rw [e4]; simp) r2 r1⟩
    · have e5 := hsee 23 (by decide) 5 rfl
      exact wp_of_run (run_assign _ _ _ _ _ _ _ 23 _ rfl) ⟨_, rfl, hT.last e5⟩
  intro e w2 hT hall
  obtain ⟨v0, h0⟩ := hall 0 (by decide)
  obtain ⟨v1, h1⟩ := hall 1 (by decide)
  obtain ⟨v2, h2⟩ := hall 2 (by decide)
  obtain ⟨v3, h3⟩ := hall 3 (by decide)
  obtain ⟨v4, h4⟩ := hall 4 (by decide)
  obtain ⟨v5, h5⟩ := hall 5 (by decide)
  obtain ⟨v6, h6⟩ := hall 6 (by decide)
  have h65 := hT.six v6 h6
  rw [h5] at h65
  obtain rfl := Option.some.inj h65
  have HRw := Lib.hid (hT.five _ h5)
  have HB2 := Lib.hid hT.below
  simp only [List.length_cons, List.length_nil, Nat.reduceAdd, fillTo, h0, h1, h2, h3, h4, h5, h6, dstOf]
  clear hT hall h0 h1 h2 h3 h4 h5 h6
  obtain ⟨av, Hav⟩ : ∃ u : Value, Hid (u = v5) := ⟨_, Lib.hid rfl⟩
  clear Hav av
  have HI2 := Lib.hid (HI.out.below (below_step HBV.out HB2.out))
  go_wp2_with (at_builtin; refine wpList_copy_names rfl _ _ rfl w2.heap.size rfl (Whole.new _ _ _) V.heap.size HB2.out.size ids m Hm.out hm io ic rfl (HI2.out.below ((Below.refl _ _).alloc (Nat.le_refl _) _)) ?_; intro nv w3 hown hb; refine Hid.out ?_)
  refine Lib.hid ?_
  have HNv := Lib.hid hown
  have HB3' : Hid (Below w2.heap.size w2 w3) := Lib.hid (below_step ((Below.refl _ _).alloc (Nat.le_refl _) _) hb)
  clear hown hb
  have hs3 : V.heap.size ≤ (w3.alloc (.cells #[.string id] 9)).heap.size := by rw [size_alloc]; have := HB3'.out.size; have := HB2.out.size; omega
  have HNs : Hid (∀ (i : Nat) (u : Value), [Value.string id][i]? = some u → (w3.alloc (.cells #[.string id] 9)).cell? ((⟨w3.heap.size, 0, none⟩ : Addr).add i) = some u) := Lib.hid (by
    intro i u hu
    have e : (⟨w3.heap.size, 0, none⟩ : Addr).add i = ⟨w3.heap.size, i, none⟩ := by unfold Addr.add; split <;> simp_all
    rw [e, cell_alloc, if_pos rfl]
    simpa using hu)
  have HEnd : Hid (∀ w4 nv', (w3.alloc (.cells #[.string id] 9)).grownBy w4 nv.ownBlock → w4.ownsRow V.heap.size 9 1 nv' (m + 1) (strC ids ++ [.string id]) → Below V.heap.size V w4 ∧ w4.ownsRow V.heap.size 9 1 nv' (m + 1) (strC (ids ++ [id])) ∧ w4.ownsRow V.heap.size 54 36 v5 (n + 1) (recsC (recs ++ [x]))) := Lib.hid (fun w4 nv' hg ho => by
    have hba : Below w3.heap.size w3 (w3.alloc (.cells #[.string id] 9)) := (Below.refl _ _).alloc (Nat.le_refl _) _
    have k1 := owns_below HNv.out hba
    have k2 := owns_below HRw.out (below_step HB3'.out hba)
    refine ⟨(below_step (below_step HB2.out HB3'.out) hba).grown hg hs3 (fun j e => (k1.lt j e).1), ?_, ?_⟩
    · rw [strC_snoc]; exact ho
    · rw [recsC_snoc]; exact Apart.kept (owns_apart k1 k2 (by decide)) k2 hg)
  go_wp2_with (at_builtin; refine wpList_append_own _ rfl _ _ 22 rfl V.heap.size 9 i1 (.string ⟨#[]⟩) 1 16 Try.underlying22 hi1 hy0 hy1 hy2 rfl (by decide) nv m (strC ids) rfl (HNv.out.alloc _) ⟨w3.heap.size, 0, none⟩ 1 1 [.string id] rfl rfl HNs.out (by simp [Value.oneCell']) (by unfold maxLen; omega) (by omega) hs3 ?_; intro nv' w4 hown hgrow _; have HFin := Lib.hid (HEnd.out w4 nv' hgrow hown); clear hown hgrow)
  have HB4 := Lib.hid (below_step HBV.out HFin.out.1)
  have HBox4 := Lib.hid (whole_below HBox.out HFin.out.1)
  obtain ⟨ao, ac, hao⟩ := owns_shape HFin.out.2.1
  obtain ⟨bo, bc, hbo⟩ := owns_shape HFin.out.2.2
  subst hao hbo
  have hN1 : (ids ++ [id]).length = m + 1 := by rw [List.length_append, ← Hm.out]; rfl
  have hR1 : (recs ++ [x]).length = n + 1 := by rw [List.length_append, ← Hn.out]; rfl
  have l1 : IsStrs w4 ao (ids ++ [id]) := strs_of_row (B := V.heap.size) (c := ac) (by rw [hN1]; exact HFin.out.2.1)
  have l2 : IsRecs w4 bo (recs ++ [x]) := recs_of_row (B := V.heap.size) (c := bc) (by rw [hR1]; exact HFin.out.2.2) (fun r hr => by
    rcases List.mem_append.1 hr with hr | hr
    · exact ⟨(HR.out.1 r hr).1, (HR.out.1 r hr).2.below HB4.out⟩
    · rw [List.mem_singleton.1 hr]; exact ⟨HOk.out, HXm.out.below HB4.out⟩)
  have HL1 := Lib.hid l1
  have HL2 := Lib.hid l2
  have hf := HFew.out ao bo ac bc w4 l1 l2
  rw [hN1, hR1] at hf
  clear l1 l2
  refine hf.mono ?_
  rintro e w ⟨b, rfl, hf, hw⟩
  subst hw
  cases b with
  | false =>
    go_wp2_with fail
    go_ret
    exact ⟨rfl, HB4.out⟩
  | true =>
  obtain ⟨hn30, hm30, hmem, hsz⟩ := hf rfl
  have HMem := Lib.hid hmem
  have HSz := Lib.hid hsz
  clear hmem hsz hf
  by_cases hne : m ≠ n
  · have h1 : ((m : Int) == (n : Int)) = false := by
      have : ((m : Int) == (n : Int)) = decide ((m : Int) = (n : Int)) := rfl
      rw [this, decide_eq_false]; omega
    go_wp2_with fail
    go_ret
    exact ⟨rfl, HB4.out⟩
  obtain rfl : m = n := by omega
  clear hne
  by_cases h28 : 28 < m
  · have d1 : decide ((28 : Int) < (m : Int)) = true := decide_eq_true (by omega)
    go_wp2_with fail
    go_ret
    exact ⟨rfl, HB4.out⟩
  have d1 : decide ((28 : Int) < (m : Int)) = false := decide_eq_false (by omega)
  have b0 := HBox4.out.cell 0
  rw [List.getElem?_toArray] at b0
  rw [HOk.out.c0] at b0
  obtain ⟨kd, Hkd⟩ : ∃ u, Hid (u = x.kind) := ⟨_, Lib.hid rfl⟩
  rw [← Hkd.out] at b0
  by_cases h5 : kd = 5
  · have e5 : (kd == 5) = true := by rw [h5]; rfl
    go_wp2_with fail
    go_ret
    exact ⟨rfl, HB4.out⟩
  have e5 : (kd == 5) = false := by simpa using h5
  go_wp2_with fail
  obtain ⟨P, HP⟩ : ∃ P, Hid (P = ids.zip recs) := ⟨_, Lib.hid rfl⟩
  have HNe : Hid (ids.length = recs.length) := Lib.hid (by rw [← Hn.out, ← Hm.out])
  have HPl : Hid (P.length = m) := Lib.hid (by rw [HP.out, List.length_zip, HNe.out, Nat.min_self]; exact Hn.out.symm)
  obtain ⟨H, HHe⟩ : ∃ H, Hid (H = Hld.allF P) := ⟨_, Lib.hid rfl⟩
  obtain ⟨q, Hq⟩ : ∃ q, Hid (q = H.length) := ⟨_, Lib.hid rfl⟩
  obtain ⟨G, HG⟩ : ∃ G, Hid (G = H.map (Hld.gv x)) := ⟨_, Lib.hid rfl⟩
  have HGl : Hid (G.length = q) := Lib.hid (by rw [HG.out, List.length_map, ← Hq.out])
  have h5x : x.kind ≠ 5 := by rw [← Hkd.out]; exact h5
  have hz1 : (ids ++ [id]).zip (recs ++ [x]) = P ++ [(id, x)] := by rw [List.zip_append HNe.out, ← HP.out]; rfl
  have hz2 : (ids ++ [id] ++ [id]).zip (recs ++ [x] ++ [x]) = P ++ [(id, x)] ++ [(id, x)] := by rw [List.zip_append (by rw [hN1, hR1]), hz1]; rfl
  have HGe : Hid (Hld.allF (P ++ [(id, x)]) = G) := Lib.hid (by rw [Hld.all_more h5x, HG.out, HHe.out])
  have HGe2 : Hid (Hld.allF (P ++ [(id, x)] ++ [(id, x)]) = G) := Lib.hid (by rw [Hld.all_twice h5x, HGe.out])
  have HRm : Hid (∀ r ∈ recs, r.members.length ≤ 1000) := Lib.hid (fun r hr => by have := HMem.out r (List.mem_append_left _ hr); omega)
  have HXl : Hid (x.members.length ≤ 1000) := Lib.hid (by have := HMem.out x (List.mem_append_right _ (List.mem_singleton.2 rfl)); omega)
  have HI4 := Lib.hid (HI.out.below HB4.out)
  have HA := HAll.out (by rw [← Hn.out]; omega) (by rw [← Hm.out]; omega) (fun s hs => by have := HSz.out s (List.mem_append_left _ hs); omega) HRm.out w4 HI4.out (HR.out.below HB4.out) HNe.out
  rw [← HP.out, ← HHe.out, ← Hq.out, ← Hn.out, ← Hm.out] at HA
  have HA := Lib.hid HA
  have hq1000 : q ≤ 1000 := by
    have := Hld.allF_len P
    rw [← HHe.out, ← Hq.out, HPl.out] at this
    omega
  have HC := Lib.hid (fun w a b => all_rows (ids ++ [id]) (recs ++ [x]) ao bo ac bc (by rw [hR1]; omega) (by rw [hN1]; omega) (fun s hs => by have := HSz.out s hs; omega) (fun r hr => by have := HMem.out r hr; omega) w a b (by rw [hN1, hR1]))
  rw [hz1, HGe.out, HGl.out, hN1, hR1] at HC
  have hN2 : (ids ++ [id] ++ [id]).length = m + 1 + 1 := by rw [List.length_append, hN1]; rfl
  have hR2 : (recs ++ [x] ++ [x]).length = m + 1 + 1 := by rw [List.length_append, hR1]; rfl
  have HD := Lib.hid (fun w co cc do' dc a b => all_any (ids ++ [id] ++ [id]) (recs ++ [x] ++ [x]) co do' cc dc (by rw [List.length_append, hR1]; simp; omega) (by rw [List.length_append, hN1]; simp; omega) (fun s hs => by
    rcases List.mem_append.1 hs with hs | hs
    · have := HSz.out s hs; omega
    · rw [List.mem_singleton.1 hs]; exact hid9) (fun r hr => by
    rcases List.mem_append.1 hr with hr | hr
    · have := HMem.out r hr; omega
    · rw [List.mem_singleton.1 hr]; exact HXl.out) w a b (by rw [hN2, hR2]))
  rw [hz2, HGe2.out, HGl.out, hN2, hR2] at HD
  refine HA.out.mono ?_
  rintro e w5 ⟨ho, hc, csA, rfl, hra, hca, hqc, hb⟩
  have HRA := Lib.hid hra
  have HCA := Lib.hid hca
  have HB45 := Lib.hid hb
  clear hra hca hb
  go_wp2_with fail
  refine (HC.out w5 (HL1.out.below HB45.out) (HL2.out.below HB45.out)).mono ?_
  rintro e w6 ⟨go, gc, csB, rfl, hrb, hcb, hqg, hb⟩
  have HRB := Lib.hid hrb
  have HCB := Lib.hid hcb
  have HB46 := Lib.hid (below_step HB45.out hb)
  have HRA6 := Lib.hid (owns_below HRA.out hb)
  have HCA6 := Lib.hid (HCA.out.mono (J' := OJ w4 w6) fun _ _ _ h => owns_below h hb)
  clear hrb hcb hb b0
  go_wp2_with fail
  have hgxV : gx < V.heap.size := HBox.out.lt
  have HB6 := Lib.hid (below_step HFin.out.1 HB46.out)
  have HBox6 := Lib.hid (whole_below HBox.out HB6.out)
  have HK1 := Lib.hid (owns_below HFin.out.2.1 HB46.out)
  have HK2 := Lib.hid (owns_below HFin.out.2.2 HB46.out)
  apply wp_region_ent 132 (AgT V.heap.size w6 (ids ++ [id]) (recs ++ [x]) id x (m + 1) (.slice ao (m + 1) ac) (.slice bo (m + 1) bc) (fun v w => ∃ co cc, v = .slice co q cc ∧ IsHolds w co G)) (by kernel_rfl) (by kernel_rfl) rfl (AgT.start HB6.out.size HK1.out HK2.out)
  · intro i o ho' e w A' hT hei hwt hsee haway
    have h6 : A'.eval (.tmp 6) = .pointer (some ⟨gx, 0, none⟩) := (haway 6 (by kernel_rfl)).trans rfl
    have h3 : A'.eval (.tmp 3) = .string id := (haway 3 (by kernel_rfl)).trans rfl
    have h11 : A'.eval (.tmp 11) = .slice ao (m + 1) ac := (haway 11 (by kernel_rfl)).trans rfl
    have h10 : A'.eval (.tmp 10) = .slice bo (m + 1) bc := (haway 10 (by kernel_rfl)).trans rfl
    have HWx : Whole w gx 54 x.cells.toArray := (hT.keep.low.block gx hgxV).trans HBox6.out
    have hpost : ∀ (v : Value) (w w' : World), (∃ co cc, v = .slice co q cc ∧ IsHolds w co G) → Below w.heap.size w w' → ∃ co cc, v = .slice co q cc ∧ IsHolds w' co G := fun v w w' ⟨co, cc, q1, q2⟩ hb => ⟨co, cc, q1, q2.below hb⟩
    have hi : i < 10 := by have := (List.getElem?_eq_some_iff.1 ho').1; simpa using this
    have hi : i = 0 ∨ i = 1 ∨ i = 2 ∨ i = 3 ∨ i = 4 ∨ i = 5 ∨ i = 6 ∨ i = 7 ∨ i = 8 ∨ i = 9 := by omega
    rcases hi with rfl | rfl | rfl | rfl | rfl | rfl | rfl | rfl | rfl | rfl
    all_goals
      simp only [List.getElem?_cons_succ, List.getElem?_cons_zero, Option.some.injEq] at ho'
      subst ho'
    · exact wp_of_run (run_move _ _ _ _ _ _ _ 11 _ h11) ⟨_, rfl, hT.step hpost (by decide) (by decide) (by decide) (by decide) (Below.refl _ _) (fun h => absurd h (by decide)) (fun h => absurd h (by decide)) (fun _ => rfl) (fun h => absurd h (by decide)) (fun h => absurd h (by decide)) (fun h => absurd h (by decide))⟩
    · exact wp_of_run (run_move _ _ _ _ _ _ _ 3 _ h3) ⟨_, rfl, hT.step hpost (by decide) (by decide) (by decide) (by decide) (Below.refl _ _) (fun h => absurd h (by decide)) (fun h => absurd h (by decide)) (fun h => absurd h (by decide)) (fun _ => rfl) (fun h => absurd h (by decide)) (fun h => absurd h (by decide))⟩
    · have q1 := hT.p1 _ (hsee 59 (by decide) 1 rfl)
      exact wp_of_run (run_one_str _ _ _ _ _ _ _ 59 id q1) ⟨_, rfl, hT.step hpost (by decide) (by decide) (by decide) (by decide) ((Below.refl _ _).alloc (Nat.le_refl _) _) (fun _ => ⟨_, rfl, Whole.new _ _ _⟩) (fun h => absurd h (by decide)) (fun h => absurd h (by decide)) (fun h => absurd h (by decide)) (fun h => absurd h (by decide)) (fun h => absurd h (by decide))⟩
    · have q0 := hT.p0 _ (hsee 58 (by decide) 0 rfl)
      obtain ⟨g, q2, q3⟩ := hT.name hei _ (hsee 60 (by decide) 2 rfl)
      obtain ⟨v, w', hr, r1, r2⟩ := ag_names 22 (by omega) hT.size (hT.names hei) q3
      exact wp_of_run (run_append_str _ _ _ _ _ _ _ w' 58 60 _ _ _ q0 q2 hr) ⟨_, rfl, hT.grow3 hei r2 r1⟩
    · exact wp_of_run (run_move _ _ _ _ _ _ _ 10 _ h10) ⟨_, rfl, hT.step hpost (by decide) (by decide) (by decide) (by decide) (Below.refl _ _) (fun h => absurd h (by decide)) (fun h => absurd h (by decide)) (fun h => absurd h (by decide)) (fun h => absurd h (by decide)) (fun _ => rfl) (fun h => absurd h (by decide))⟩
    · exact wp_of_run (run_load_rec _ _ _ _ _ _ _ 6 gx x HOk.out h6 HWx) ⟨_, rfl, hT.step hpost (by decide) (by decide) (by decide) (by decide) (Below.refl _ _) (fun h => absurd h (by decide)) (fun h => absurd h (by decide)) (fun h => absurd h (by decide)) (fun h => absurd h (by decide)) (fun h => absurd h (by decide)) (fun _ => rfl)⟩
    · have q5 := hT.p5 _ (hsee 63 (by decide) 5 rfl)
      exact wp_of_run (run_one_rec _ _ _ _ _ _ _ 63 x.cells HOk.out.len q5) ⟨_, rfl, hT.step hpost (by decide) (by decide) (by decide) (by decide) ((Below.refl _ _).alloc (Nat.le_refl _) _) (fun h => absurd h (by decide)) (fun _ => ⟨_, rfl, Whole.new _ _ _⟩) (fun h => absurd h (by decide)) (fun h => absurd h (by decide)) (fun h => absurd h (by decide)) (fun h => absurd h (by decide))⟩
    · have q4 := hT.p4 _ (hsee 62 (by decide) 4 rfl)
      obtain ⟨g, q2, q3⟩ := hT.one hei _ (hsee 64 (by decide) 6 rfl)
      obtain ⟨v, w', hr, r1, r2⟩ := ag_recs 23 (by omega) hT.size HOk.out (hT.recs hei) q3
      exact wp_of_run (run_append_rec _ _ _ _ _ _ _ w' 62 64 _ _ _ q4 q2 hr) ⟨_, rfl, hT.grow7 hei r2 r1⟩
    · have e3 := hsee 61 (by decide) 3 rfl
      have e7 := hsee 65 (by decide) 7 rfl
      have r3 := hT.names' _ e3
      have r7 := hT.recs' _ e7
      obtain ⟨co, cc, s3⟩ := owns_shape r3
      obtain ⟨do', dc, s7⟩ := owns_shape r7
      rw [s3] at r3
      rw [s7] at r7
      have hBw : Below W.heap.size W w := below_step HBV.out (HB6.out.trans hT.keep.low)
      refine wp_of_call2 _ _ _ _ _ _ _ 11 _ 61 65 _ _ s3 s7 (by kernel_rfl) ?_
      refine (HD.out w co cc do' dc (strs_of_row (B := V.heap.size) (c := cc) (by rw [hN2]; exact r3)) (recs_of_row (B := V.heap.size) (c := dc) (by rw [hR2]; exact r7) (fun r hr => by
        rcases List.mem_append.1 hr with hr | hr
        · rcases List.mem_append.1 hr with hr | hr
          · exact ⟨(HR.out.1 r hr).1, (HR.out.1 r hr).2.below hBw⟩
          · rw [List.mem_singleton.1 hr]; exact ⟨HOk.out, HXm.out.below hBw⟩
        · rw [List.mem_singleton.1 hr]; exact ⟨HOk.out, HXm.out.below hBw⟩))).mono ?_
      rintro e' w' ⟨eo, ec, rfl, hh, -, hb⟩
      exact ⟨_, rfl, _, rfl, hT.call (by rw [e3]; simp) (by rw [e7]; simp) hei hb ⟨eo, ec, rfl, hh⟩⟩
    · have e8 := hsee 66 (by decide) 8 rfl
      exact wp_of_run (run_assign _ _ _ _ _ _ _ 66 _ rfl) ⟨_, rfl, hT.fin e8⟩
  intro e w7 hT hall
  obtain ⟨v0', h0⟩ := hall 0 (by decide)
  obtain ⟨v1', h1⟩ := hall 1 (by decide)
  obtain ⟨v2', h2⟩ := hall 2 (by decide)
  obtain ⟨v3', h3⟩ := hall 3 (by decide)
  obtain ⟨v4', h4⟩ := hall 4 (by decide)
  obtain ⟨v5', h5'⟩ := hall 5 (by decide)
  obtain ⟨v6', h6⟩ := hall 6 (by decide)
  obtain ⟨v7', h7⟩ := hall 7 (by decide)
  obtain ⟨v8', h8⟩ := hall 8 (by decide)
  obtain ⟨v9', h9⟩ := hall 9 (by decide)
  have h98 := hT.last v9' h9
  rw [h8] at h98
  obtain rfl := Option.some.inj h98
  obtain ⟨⟨eo, ec, rfl, hEG⟩, _, _⟩ := hT.all _ h8
  have HEG := Lib.hid hEG
  have HKp := Lib.hid hT.keep
  simp only [List.length_cons, List.length_nil, Nat.reduceAdd, fillTo, h0, h1, h2, h3, h4, h5', h6, h7, h8, h9, dstOf]
  clear hT hall h0 h1 h2 h3 h4 h5' h6 h7 h8 h9 hEG
  go_wp2_with fail
  have HBV7 := Lib.hid (HB6.out.trans HKp.out.low)
  have HKs := Lib.hid (show IsHolds w7 ho H from holds_of_row (W := V) (l := H) Hq.out (HKp.out.holds _ _ _ _ HRA6.out) (HCA6.out.mono (J' := IJ V w7) fun _ _ _ h => Or.inr (owns_base (HKp.out.nums _ _ _ _ h) HFin.out.1.size)) HBV7.out)
  have HGs := Lib.hid (show IsHolds w7 go G from holds_of_row (W := V) (l := G) HGl.out.symm (HKp.out.holds _ _ _ _ HRB.out) (HCB.out.mono (J' := IJ V w7) fun _ _ _ h => Or.inr (owns_base (HKp.out.nums _ _ _ _ h) (Nat.le_trans HFin.out.1.size HB45.out.size))) HBV7.out)
  have HHm : Hid (∀ h ∈ H, h.members.length ≤ 1000 ∧ h.back.length ≤ 1000) := Lib.hid (fun h hh => by
    rw [HHe.out] at hh
    obtain ⟨⟨y, hy, _, e⟩, e2⟩ := Hld.all_mem hh
    rw [HP.out] at hy
    have := HRm.out _ (List.of_mem_zip (show (y.1, y.2) ∈ ids.zip recs from hy)).2
    rw [HPl.out] at e2
    rw [e]
    omega)
  have HGm : Hid (∀ h ∈ G, h.members.length ≤ 100000 ∧ h.back.length ≤ 100000) := Lib.hid (fun h hh => by
    rw [HG.out] at hh
    obtain ⟨y, hy, rfl⟩ := List.mem_map.1 hh
    have := HHm.out y hy
    have h2 : (Hld.gv x y).back.length ≤ y.back.length + 1 := by
      unfold Hld.gv Hld.give
      split
      · split
        · simp
        · omega
      · omega
    have h3 : (Hld.gv x y).members = y.members := by
      unfold Hld.gv
      split
      · exact Hld.give_members x y
      · rfl
    rw [h3]
    omega)
  have HS := same_true go eo gc ec G (by rw [HGl.out]; omega) HGm.out w7 HGs.out HEG.out
  rw [HGl.out] at HS
  refine HS.mono ?_
  rintro e w8 ⟨rfl, hb⟩
  have HB8 := Lib.hid (below_step HBV.out (HBV7.out.trans (hb.mono HBV7.out.size)))
  have HBox8 := Lib.hid (whole_below HBox.out (HBV7.out.trans (hb.mono HBV7.out.size)))
  have HKs8 := Lib.hid (HKs.out.below hb)
  have HGs8 := Lib.hid (HGs.out.below hb)
  clear hb
  go_wp2_with fail
  go_loopw [15] (fun i wr => ∃ k : Nat, k ≤ q ∧ i = .int .i64 k ∧ Hid (Below w8.heap.size w8 wr)) (fun i _ => q - (intOf i).toNat)
  case atStart => exact ⟨0, Nat.zero_le _, by go_num, Lib.hid (Below.refl _ _)⟩
  case round =>
    obtain ⟨k, hk, rfl, HZ⟩ := hrel
    by_cases hkq : k < q
    · have hd : decide ((k : Int) < (q : Int)) = true := decide_eq_true (by omega)
      have hb0 : (0 : Int) ≤ k := by omega
      have hb1 : (k : Int) < q := by omega
      have hkH : k < H.length := by rw [← Hq.out]; exact hkq
      have hkG : k < G.length := by rw [HGl.out]; exact hkq
      obtain ⟨bh, oh, rfl, hbh, a0, a1, mo, mc, bo2, bc2, a2, a3, a4, a5⟩ := (HKs8.out.below HZ.out).at hkH
      obtain ⟨bg, og, rfl, hbg, -, hsG⟩ := holds_from (HGs8.out.below HZ.out) hkG
      have HGk : Hid (G[k] = Hld.gv x H[k]) := Lib.hid (by simp only [HG.out, List.getElem_map])
      have hmm := HHm.out _ (List.getElem_mem hkH)
      rw [HGk.out] at hsG
      have HSG := Lib.hid hsG
      have HM4 := Lib.hid a4
      have HM5 := Lib.hid a5
      obtain ⟨h, Hh⟩ : ∃ h, Hid (h = H[k]) := ⟨_, Lib.hid rfl⟩
      rw [← Hh.out] at a0 a1 a2 a3 HSG HM4 HM5 hmm
      have HBw := Lib.hid (below_step HB8.out HZ.out)
      have HBox9 := Lib.hid (whole_below HBox8.out HZ.out)
      obtain ⟨hid2, Hhid⟩ : ∃ u, Hid (u = h.id) := ⟨_, Lib.hid rfl⟩
      obtain ⟨hve, Hhve⟩ : ∃ u, Hid (u = h.vehicle) := ⟨_, Lib.hid rfl⟩
      obtain ⟨ml, Hml⟩ : ∃ u, Hid (u = h.members.length) := ⟨_, Lib.hid rfl⟩
      obtain ⟨bl, Hbl⟩ : ∃ u, Hid (u = h.back.length) := ⟨_, Lib.hid rfl⟩
      rw [← Hhid.out] at a0
      rw [← Hhve.out] at a1
      rw [← Hml.out] at a2
      rw [← Hbl.out] at a3
      rw [← Hml.out, ← Hbl.out] at hmm
      obtain ⟨au, Hau⟩ : ∃ u, Hid (u = x.author) := ⟨_, Lib.hid rfl⟩
      obtain ⟨ta, Hta⟩ : ∃ u, Hid (u = x.target) := ⟨_, Lib.hid rfl⟩
      have HIn1 := Lib.hid (fun w (hw : Below wr.heap.size wr w) => in_any mo h.members mc au (by rw [← Hml.out]; omega) w (HM4.out.below hw))
      have HIn2 := Lib.hid (fun w (hw : Below wr.heap.size wr w) => in_any bo2 h.back bc2 au (by rw [← Hbl.out]; omega) w (HM5.out.below hw))
      obtain ⟨cm, Hcm⟩ : ∃ u, Hid (u = h.members.contains au) := ⟨_, Lib.hid rfl⟩
      obtain ⟨cb, Hcb⟩ : ∃ u, Hid (u = h.back.contains au) := ⟨_, Lib.hid rfl⟩
      rw [← Hml.out, ← Hcm.out] at HIn1
      rw [← Hbl.out, ← Hcb.out] at HIn2
      have HGv : Hid (Hld.gv x h = if kd = 6 then (if (decide (ta = hid2) && (cm && !cb)) then { h with back := h.back ++ [au] } else h) else h) := Lib.hid (by
        unfold Hld.gv Hld.give Hld.gives
        rw [← Hkd.out, ← Hta.out, ← Hau.out, ← Hhid.out, ← Hcm.out, ← Hcb.out])
      obtain ⟨gw, Hgw⟩ : ∃ g, Hid (g = wr.heap.size) := ⟨_, Lib.hid rfl⟩
      obtain ⟨v, Hv⟩ : ∃ v, Hid (v = wr.alloc (.cells #[.string hid2, .string hve, .slice mo ml mc, .slice bo2 bl bc2] 31)) := ⟨_, Lib.hid rfl⟩
      have HWv : Hid (Whole v gw 31 #[.string hid2, .string hve, .slice mo ml mc, .slice bo2 bl bc2]) := Lib.hid (by rw [Hv.out, Hgw.out]; exact Whole.new _ _ _)
      have HBv : Hid (Below wr.heap.size wr v) := Lib.hid (by rw [Hv.out]; exact (Below.refl _ _).alloc (Nat.le_refl _) _)
      have HBoxv := Lib.hid (whole_below HBox9.out HBv.out)
      have b0 := HBoxv.out.cell 0
      have b1 := HBoxv.out.cell 1
      have b5 := HBoxv.out.cell 5
      rw [List.getElem?_toArray] at b0 b1 b5
      rw [HOk.out.c0, ← Hkd.out, Hv.out] at b0
      rw [HOk.out.c1, ← Hau.out, Hv.out] at b1
      rw [HOk.out.c5, ← Hta.out, Hv.out] at b5
      have HBv' : Hid (Below wr.heap.size wr (wr.alloc (.cells #[.string hid2, .string hve, .slice mo ml mc, .slice bo2 bl bc2] 31))) := Lib.hid (by rw [← Hv.out]; exact HBv.out)
      clear a4 a5 hsG
      by_cases h6 : kd = 6
      case neg =>
        have e6 : (kd == 6) = false := by simpa using h6
        go_wp2_with fail
        obtain ⟨Y, HY⟩ : ∃ Y, Hid (Y = v) := ⟨_, Lib.hid rfl⟩
        obtain ⟨bo3, bl3, bc3, Hb3⟩ : ∃ a b c, Hid (a = bo2 ∧ b = bl ∧ c = bc2) := ⟨_, _, _, Lib.hid ⟨rfl, rfl, rfl⟩⟩
        have HBY : Hid (Below wr.heap.size wr Y) := Lib.hid (by rw [HY.out]; exact HBv.out)
        have HWY : Hid (Whole Y gw 31 #[.string hid2, .string hve, .slice mo ml mc, .slice bo3 bl3 bc3]) := Lib.hid (by rw [HY.out, Hb3.out.1, Hb3.out.2.1, Hb3.out.2.2]; exact HWv.out)
        have hgvh : Hld.gv x h = h := by rw [HGv.out, if_neg h6]
        have HQ : Hid ((Hld.gv x h).id = hid2 ∧ (Hld.gv x h).vehicle = hve ∧ ml = (Hld.gv x h).members.length ∧ bl3 = (Hld.gv x h).back.length ∧ IsInts Y bo3 (Hld.gv x h).back) := Lib.hid (by
          rw [hgvh]
          exact ⟨Hhid.out.symm, Hhve.out.symm, Hml.out, by rw [Hb3.out.2.1]; exact Hbl.out, by rw [Hb3.out.1]; exact HM5.out.below HBY.out⟩)
        have hbl3 : bl3 ≤ 1001 := by rw [Hb3.out.2.1]; omega
        rw [← Hv.out, ← HY.out, ← Hgw.out, ← Hb3.out.1, ← Hb3.out.2.1, ← Hb3.out.2.2]
        clear hgvh
        have HSm : Hid (∀ Z g, Below Y.heap.size Y Z → Whole Z g 31 #[.string hid2, .string hve, .slice mo ml mc, .slice bo3 bl3 bc3] → Calls Try.prog 15 #[.slice (some ⟨bg, og + k * 4, none⟩) 1 (gc - k), .slice (some ⟨g, 0, none⟩) 1 1] Z fun e w' => e = .returned (.bool true) ∧ Below Z.heap.size Z w') := Lib.hid (fun Z g hZ hw => by
          have hL := HSG.out.below (below_step HBY.out hZ)
          have hq := HQ.out
          obtain ⟨z1, z2, z3, z4, z5⟩ := hq
          refine same_true _ _ (gc - k) 1 [Hld.gv x h] (by simp) (fun u hu => by rw [List.mem_singleton.1 hu, ← z4, ← z3]; omega) _ hL (holds_of_whole (h := Hld.gv x h) (mo := mo) (mc := mc) (bo := bo3) (bc := bc3) (by rw [z1, z2, ← z3, ← z4]; exact hw) ?_ (z5.below hZ))
          have : (Hld.gv x h).members = h.members := by unfold Hld.gv; split <;> first | exact Hld.give_members x h | rfl
          rw [this]
          exact HM4.out.below (below_step HBY.out hZ))
        apply wp_region_mono 132 (fun j u w => match j with | 0 => u = .slice (some ⟨bg, og, none⟩) q gc | 1 => u = .int .i64 k | 2 => u = .int .i64 k | 3 => u = .int .i64 ((k + 1 : Nat) : Int) | 4 => u = .slice (some ⟨bg, og + k * 4, none⟩) 1 (gc - k) | 5 => u = .agg #[.string hid2, .string hve, .slice mo ml mc, .slice bo3 bl3 bc3] | 6 => ∃ g, u = .slice (some ⟨g, 0, none⟩) 1 1 ∧ Whole w g 31 #[.string hid2, .string hve, .slice mo ml mc, .slice bo3 bl3 bc3] | 7 => u = .bool true | 8 => u = .bool false | _ => True) ?_ (by kernel_rfl) (by kernel_rfl) rfl
        · intro i o ho' w A' hb hsee haway
          have h13 : A'.eval (.tmp 13) = .slice (some ⟨bg, og, none⟩) q gc := (haway 13 (by kernel_rfl)).trans rfl
          have h15 : A'.eval (.tmp 15) = .int .i64 k := (haway 15 (by kernel_rfl)).trans rfl
          have h16 : A'.eval (.tmp 16) = .pointer (some ⟨gw, 0, none⟩) := (haway 16 (by kernel_rfl)).trans rfl
          have hi : i < 9 := by have := (List.getElem?_eq_some_iff.1 ho').1; simpa using this
          have hi : i = 0 ∨ i = 1 ∨ i = 2 ∨ i = 3 ∨ i = 4 ∨ i = 5 ∨ i = 6 ∨ i = 7 ∨ i = 8 := by omega
          rcases hi with rfl | rfl | rfl | rfl | rfl | rfl | rfl | rfl | rfl
          all_goals
            simp only [List.getElem?_cons_succ, List.getElem?_cons_zero, Option.some.injEq] at ho'
            subst ho'
          · exact wp_of_run (run_move _ _ _ _ _ _ _ 13 _ h13) ⟨_, rfl, Below.refl _ _, rfl⟩
          · exact wp_of_run (run_move _ _ _ _ _ _ _ 15 _ h15) ⟨_, rfl, Below.refl _ _, rfl⟩
          · exact wp_of_run (run_move _ _ _ _ _ _ _ 15 _ h15) ⟨_, rfl, Below.refl _ _, rfl⟩
          · have q2 : A'.eval (.tmp 124) = .int .i64 k := hsee 124 (by decide) 2 rfl
            exact wp_of_run (run_next_int _ _ _ _ _ _ _ 124 k (by omega) q2) ⟨_, rfl, Below.refl _ _, rfl⟩
          · have q0 : A'.eval (.tmp 122) = .slice (some ⟨bg, og, none⟩) q gc := hsee 122 (by decide) 0 rfl
            have q1 : A'.eval (.tmp 123) = .int .i64 k := hsee 123 (by decide) 1 rfl
            have q3 : A'.eval (.tmp 125) = .int .i64 ((k + 1 : Nat) : Int) := hsee 125 (by decide) 3 rfl
            exact wp_of_run (run_cut_holds _ _ _ _ _ _ _ 122 123 125 bg og q gc k hkq hqg q0 q1 q3) ⟨_, rfl, Below.refl _ _, rfl⟩
          · exact wp_of_run (run_load_hold _ _ _ _ _ _ _ 16 gw _ _ _ _ h16 (whole_below HWY.out hb)) ⟨_, rfl, Below.refl _ _, rfl⟩
          · have q5 : A'.eval (.tmp 127) = .agg #[.string hid2, .string hve, .slice mo ml mc, .slice bo3 bl3 bc3] := hsee 127 (by decide) 5 rfl
            exact wp_of_run (run_one_hold _ _ _ _ _ _ _ 127 _ _ _ _ q5) ⟨_, rfl, (Below.refl _ _).alloc (Nat.le_refl _) _, _, rfl, Whole.new _ _ _⟩
          · have q4 : A'.eval (.tmp 126) = .slice (some ⟨bg, og + k * 4, none⟩) 1 (gc - k) := hsee 126 (by decide) 4 rfl
            obtain ⟨g, q6, q7⟩ : ∃ g, A'.eval (.tmp 128) = .slice (some ⟨g, 0, none⟩) 1 1 ∧ Whole w g 31 #[.string hid2, .string hve, .slice mo ml mc, .slice bo3 bl3 bc3] := hsee 128 (by decide) 6 rfl
            refine wp_of_call2 _ _ _ _ _ _ _ 15 _ 126 128 _ _ q4 q6 (by kernel_rfl) ?_
            refine (HSm.out w g hb q7).mono ?_
            rintro e' w' ⟨rfl, hb'⟩
            exact ⟨_, rfl, _, rfl, hb', rfl⟩
          · have q7 : A'.eval (.tmp 129) = .bool true := hsee 129 (by decide) 7 rfl
            exact wp_of_run (run_not _ _ _ _ _ _ _ 129 true q7) ⟨_, rfl, Below.refl _ _, rfl⟩
        · intro e X1 hb hall
          obtain ⟨_, h0, rfl⟩ := hall 0 (by decide)
          obtain ⟨_, h1, rfl⟩ := hall 1 (by decide)
          obtain ⟨_, h2, rfl⟩ := hall 2 (by decide)
          obtain ⟨_, h3, rfl⟩ := hall 3 (by decide)
          obtain ⟨_, h4, rfl⟩ := hall 4 (by decide)
          obtain ⟨_, h5x, rfl⟩ := hall 5 (by decide)
          obtain ⟨_, h6x, ⟨_, rfl, _⟩⟩ := hall 6 (by decide)
          obtain ⟨_, h7, rfl⟩ := hall 7 (by decide)
          obtain ⟨_, h8, rfl⟩ := hall 8 (by decide)
          have HX1 : Hid (Below Y.heap.size Y X1) := Lib.hid hb
          simp only [List.length_cons, List.length_nil, Nat.reduceAdd, fillTo, h0, h1, h2, h3, h4, h5x, h6x, h7, h8, dstOf]
          clear hall h0 h1 h2 h3 h4 h5x h6x h7 h8 hb
          go_simp
          go_wp2_with fail
          go_round
          case rel => exact ⟨k + 1, by omega, by go_num, Lib.hid (below_step HZ.out (below_step HBY.out HX1.out))⟩
          case measure => simp [intOf]; omega
        · intro j u w w' hu hb
          match j, hu with
          | 0, hu | 1, hu | 2, hu | 3, hu | 4, hu | 5, hu | 7, hu | 8, hu => exact hu
          | 6, ⟨g, q1, q2⟩ => exact ⟨g, q1, whole_below q2 hb⟩
          | _ + 9, _ => trivial
      subst h6
      rw [if_pos rfl] at HGv
      by_cases ht : ta = hid2
      case neg =>
        have et := bytes_ne ht
        go_wp2_with fail
        obtain ⟨Y, HY⟩ : ∃ Y, Hid (Y = v) := ⟨_, Lib.hid rfl⟩
        obtain ⟨bo3, bl3, bc3, Hb3⟩ : ∃ a b c, Hid (a = bo2 ∧ b = bl ∧ c = bc2) := ⟨_, _, _, Lib.hid ⟨rfl, rfl, rfl⟩⟩
        have HBY : Hid (Below wr.heap.size wr Y) := Lib.hid (by rw [HY.out]; exact HBv.out)
        have HWY : Hid (Whole Y gw 31 #[.string hid2, .string hve, .slice mo ml mc, .slice bo3 bl3 bc3]) := Lib.hid (by rw [HY.out, Hb3.out.1, Hb3.out.2.1, Hb3.out.2.2]; exact HWv.out)
        have hgvh : Hld.gv x h = h := by rw [HGv.out, decide_eq_false ht]; rfl
        have HQ : Hid ((Hld.gv x h).id = hid2 ∧ (Hld.gv x h).vehicle = hve ∧ ml = (Hld.gv x h).members.length ∧ bl3 = (Hld.gv x h).back.length ∧ IsInts Y bo3 (Hld.gv x h).back) := Lib.hid (by
          rw [hgvh]
          exact ⟨Hhid.out.symm, Hhve.out.symm, Hml.out, by rw [Hb3.out.2.1]; exact Hbl.out, by rw [Hb3.out.1]; exact HM5.out.below HBY.out⟩)
        have hbl3 : bl3 ≤ 1001 := by rw [Hb3.out.2.1]; omega
        rw [← Hv.out, ← HY.out, ← Hgw.out, ← Hb3.out.1, ← Hb3.out.2.1, ← Hb3.out.2.2]
        clear hgvh
        have HSm : Hid (∀ Z g, Below Y.heap.size Y Z → Whole Z g 31 #[.string hid2, .string hve, .slice mo ml mc, .slice bo3 bl3 bc3] → Calls Try.prog 15 #[.slice (some ⟨bg, og + k * 4, none⟩) 1 (gc - k), .slice (some ⟨g, 0, none⟩) 1 1] Z fun e w' => e = .returned (.bool true) ∧ Below Z.heap.size Z w') := Lib.hid (fun Z g hZ hw => by
          have hL := HSG.out.below (below_step HBY.out hZ)
          have hq := HQ.out
          obtain ⟨z1, z2, z3, z4, z5⟩ := hq
          refine same_true _ _ (gc - k) 1 [Hld.gv x h] (by simp) (fun u hu => by rw [List.mem_singleton.1 hu, ← z4, ← z3]; omega) _ hL (holds_of_whole (h := Hld.gv x h) (mo := mo) (mc := mc) (bo := bo3) (bc := bc3) (by rw [z1, z2, ← z3, ← z4]; exact hw) ?_ (z5.below hZ))
          have : (Hld.gv x h).members = h.members := by unfold Hld.gv; split <;> first | exact Hld.give_members x h | rfl
          rw [this]
          exact HM4.out.below (below_step HBY.out hZ))
        apply wp_region_mono 132 (fun j u w => match j with | 0 => u = .slice (some ⟨bg, og, none⟩) q gc | 1 => u = .int .i64 k | 2 => u = .int .i64 k | 3 => u = .int .i64 ((k + 1 : Nat) : Int) | 4 => u = .slice (some ⟨bg, og + k * 4, none⟩) 1 (gc - k) | 5 => u = .agg #[.string hid2, .string hve, .slice mo ml mc, .slice bo3 bl3 bc3] | 6 => ∃ g, u = .slice (some ⟨g, 0, none⟩) 1 1 ∧ Whole w g 31 #[.string hid2, .string hve, .slice mo ml mc, .slice bo3 bl3 bc3] | 7 => u = .bool true | 8 => u = .bool false | _ => True) ?_ (by kernel_rfl) (by kernel_rfl) rfl
        · intro i o ho' w A' hb hsee haway
          have h13 : A'.eval (.tmp 13) = .slice (some ⟨bg, og, none⟩) q gc := (haway 13 (by kernel_rfl)).trans rfl
          have h15 : A'.eval (.tmp 15) = .int .i64 k := (haway 15 (by kernel_rfl)).trans rfl
          have h16 : A'.eval (.tmp 16) = .pointer (some ⟨gw, 0, none⟩) := (haway 16 (by kernel_rfl)).trans rfl
          have hi : i < 9 := by have := (List.getElem?_eq_some_iff.1 ho').1; simpa using this
          have hi : i = 0 ∨ i = 1 ∨ i = 2 ∨ i = 3 ∨ i = 4 ∨ i = 5 ∨ i = 6 ∨ i = 7 ∨ i = 8 := by omega
          rcases hi with rfl | rfl | rfl | rfl | rfl | rfl | rfl | rfl | rfl
          all_goals
            simp only [List.getElem?_cons_succ, List.getElem?_cons_zero, Option.some.injEq] at ho'
            subst ho'
          · exact wp_of_run (run_move _ _ _ _ _ _ _ 13 _ h13) ⟨_, rfl, Below.refl _ _, rfl⟩
          · exact wp_of_run (run_move _ _ _ _ _ _ _ 15 _ h15) ⟨_, rfl, Below.refl _ _, rfl⟩
          · exact wp_of_run (run_move _ _ _ _ _ _ _ 15 _ h15) ⟨_, rfl, Below.refl _ _, rfl⟩
          · have q2 : A'.eval (.tmp 124) = .int .i64 k := hsee 124 (by decide) 2 rfl
            exact wp_of_run (run_next_int _ _ _ _ _ _ _ 124 k (by omega) q2) ⟨_, rfl, Below.refl _ _, rfl⟩
          · have q0 : A'.eval (.tmp 122) = .slice (some ⟨bg, og, none⟩) q gc := hsee 122 (by decide) 0 rfl
            have q1 : A'.eval (.tmp 123) = .int .i64 k := hsee 123 (by decide) 1 rfl
            have q3 : A'.eval (.tmp 125) = .int .i64 ((k + 1 : Nat) : Int) := hsee 125 (by decide) 3 rfl
            exact wp_of_run (run_cut_holds _ _ _ _ _ _ _ 122 123 125 bg og q gc k hkq hqg q0 q1 q3) ⟨_, rfl, Below.refl _ _, rfl⟩
          · exact wp_of_run (run_load_hold _ _ _ _ _ _ _ 16 gw _ _ _ _ h16 (whole_below HWY.out hb)) ⟨_, rfl, Below.refl _ _, rfl⟩
          · have q5 : A'.eval (.tmp 127) = .agg #[.string hid2, .string hve, .slice mo ml mc, .slice bo3 bl3 bc3] := hsee 127 (by decide) 5 rfl
            exact wp_of_run (run_one_hold _ _ _ _ _ _ _ 127 _ _ _ _ q5) ⟨_, rfl, (Below.refl _ _).alloc (Nat.le_refl _) _, _, rfl, Whole.new _ _ _⟩
          · have q4 : A'.eval (.tmp 126) = .slice (some ⟨bg, og + k * 4, none⟩) 1 (gc - k) := hsee 126 (by decide) 4 rfl
            obtain ⟨g, q6, q7⟩ : ∃ g, A'.eval (.tmp 128) = .slice (some ⟨g, 0, none⟩) 1 1 ∧ Whole w g 31 #[.string hid2, .string hve, .slice mo ml mc, .slice bo3 bl3 bc3] := hsee 128 (by decide) 6 rfl
            refine wp_of_call2 _ _ _ _ _ _ _ 15 _ 126 128 _ _ q4 q6 (by kernel_rfl) ?_
            refine (HSm.out w g hb q7).mono ?_
            rintro e' w' ⟨rfl, hb'⟩
            exact ⟨_, rfl, _, rfl, hb', rfl⟩
          · have q7 : A'.eval (.tmp 129) = .bool true := hsee 129 (by decide) 7 rfl
            exact wp_of_run (run_not _ _ _ _ _ _ _ 129 true q7) ⟨_, rfl, Below.refl _ _, rfl⟩
        · intro e X1 hb hall
          obtain ⟨_, h0, rfl⟩ := hall 0 (by decide)
          obtain ⟨_, h1, rfl⟩ := hall 1 (by decide)
          obtain ⟨_, h2, rfl⟩ := hall 2 (by decide)
          obtain ⟨_, h3, rfl⟩ := hall 3 (by decide)
          obtain ⟨_, h4, rfl⟩ := hall 4 (by decide)
          obtain ⟨_, h5x, rfl⟩ := hall 5 (by decide)
          obtain ⟨_, h6x, ⟨_, rfl, _⟩⟩ := hall 6 (by decide)
          obtain ⟨_, h7, rfl⟩ := hall 7 (by decide)
          obtain ⟨_, h8, rfl⟩ := hall 8 (by decide)
          have HX1 : Hid (Below Y.heap.size Y X1) := Lib.hid hb
          simp only [List.length_cons, List.length_nil, Nat.reduceAdd, fillTo, h0, h1, h2, h3, h4, h5x, h6x, h7, h8, dstOf]
          clear hall h0 h1 h2 h3 h4 h5x h6x h7 h8 hb
          go_simp
          go_wp2_with fail
          go_round
          case rel => exact ⟨k + 1, by omega, by go_num, Lib.hid (below_step HZ.out (below_step HBY.out HX1.out))⟩
          case measure => simp [intOf]; omega
        · intro j u w w' hu hb
          match j, hu with
          | 0, hu | 1, hu | 2, hu | 3, hu | 4, hu | 5, hu | 7, hu | 8, hu => exact hu
          | 6, ⟨g, q1, q2⟩ => exact ⟨g, q1, whole_below q2 hb⟩
          | _ + 9, _ => trivial
      have et : (ta.toList == hid2.toList) = true := by rw [ht]; exact beq_self_eq_true _
      rw [decide_eq_true ht, Bool.true_and] at HGv
      clear ht
      cases cm with
      | false =>
        go_wp2_with fail
        refine (HIn1.out _ HBv'.out).mono ?_
        rintro e wq ⟨rfl, hw⟩
        subst hw
        go_wp2_with fail
        obtain ⟨Y, HY⟩ : ∃ Y, Hid (Y = v) := ⟨_, Lib.hid rfl⟩
        obtain ⟨bo3, bl3, bc3, Hb3⟩ : ∃ a b c, Hid (a = bo2 ∧ b = bl ∧ c = bc2) := ⟨_, _, _, Lib.hid ⟨rfl, rfl, rfl⟩⟩
        have HBY : Hid (Below wr.heap.size wr Y) := Lib.hid (by rw [HY.out]; exact HBv.out)
        have HWY : Hid (Whole Y gw 31 #[.string hid2, .string hve, .slice mo ml mc, .slice bo3 bl3 bc3]) := Lib.hid (by rw [HY.out, Hb3.out.1, Hb3.out.2.1, Hb3.out.2.2]; exact HWv.out)
        have hgvh : Hld.gv x h = h := by rw [HGv.out]; rfl
        have HQ : Hid ((Hld.gv x h).id = hid2 ∧ (Hld.gv x h).vehicle = hve ∧ ml = (Hld.gv x h).members.length ∧ bl3 = (Hld.gv x h).back.length ∧ IsInts Y bo3 (Hld.gv x h).back) := Lib.hid (by
          rw [hgvh]
          exact ⟨Hhid.out.symm, Hhve.out.symm, Hml.out, by rw [Hb3.out.2.1]; exact Hbl.out, by rw [Hb3.out.1]; exact HM5.out.below HBY.out⟩)
        have hbl3 : bl3 ≤ 1001 := by rw [Hb3.out.2.1]; omega
        rw [← Hv.out, ← HY.out, ← Hgw.out, ← Hb3.out.1, ← Hb3.out.2.1, ← Hb3.out.2.2]
        clear hgvh
        have HSm : Hid (∀ Z g, Below Y.heap.size Y Z → Whole Z g 31 #[.string hid2, .string hve, .slice mo ml mc, .slice bo3 bl3 bc3] → Calls Try.prog 15 #[.slice (some ⟨bg, og + k * 4, none⟩) 1 (gc - k), .slice (some ⟨g, 0, none⟩) 1 1] Z fun e w' => e = .returned (.bool true) ∧ Below Z.heap.size Z w') := Lib.hid (fun Z g hZ hw => by
          have hL := HSG.out.below (below_step HBY.out hZ)
          have hq := HQ.out
          obtain ⟨z1, z2, z3, z4, z5⟩ := hq
          refine same_true _ _ (gc - k) 1 [Hld.gv x h] (by simp) (fun u hu => by rw [List.mem_singleton.1 hu, ← z4, ← z3]; omega) _ hL (holds_of_whole (h := Hld.gv x h) (mo := mo) (mc := mc) (bo := bo3) (bc := bc3) (by rw [z1, z2, ← z3, ← z4]; exact hw) ?_ (z5.below hZ))
          have : (Hld.gv x h).members = h.members := by unfold Hld.gv; split <;> first | exact Hld.give_members x h | rfl
          rw [this]
          exact HM4.out.below (below_step HBY.out hZ))
        apply wp_region_mono 132 (fun j u w => match j with | 0 => u = .slice (some ⟨bg, og, none⟩) q gc | 1 => u = .int .i64 k | 2 => u = .int .i64 k | 3 => u = .int .i64 ((k + 1 : Nat) : Int) | 4 => u = .slice (some ⟨bg, og + k * 4, none⟩) 1 (gc - k) | 5 => u = .agg #[.string hid2, .string hve, .slice mo ml mc, .slice bo3 bl3 bc3] | 6 => ∃ g, u = .slice (some ⟨g, 0, none⟩) 1 1 ∧ Whole w g 31 #[.string hid2, .string hve, .slice mo ml mc, .slice bo3 bl3 bc3] | 7 => u = .bool true | 8 => u = .bool false | _ => True) ?_ (by kernel_rfl) (by kernel_rfl) rfl
        · intro i o ho' w A' hb hsee haway
          have h13 : A'.eval (.tmp 13) = .slice (some ⟨bg, og, none⟩) q gc := (haway 13 (by kernel_rfl)).trans rfl
          have h15 : A'.eval (.tmp 15) = .int .i64 k := (haway 15 (by kernel_rfl)).trans rfl
          have h16 : A'.eval (.tmp 16) = .pointer (some ⟨gw, 0, none⟩) := (haway 16 (by kernel_rfl)).trans rfl
          have hi : i < 9 := by have := (List.getElem?_eq_some_iff.1 ho').1; simpa using this
          have hi : i = 0 ∨ i = 1 ∨ i = 2 ∨ i = 3 ∨ i = 4 ∨ i = 5 ∨ i = 6 ∨ i = 7 ∨ i = 8 := by omega
          rcases hi with rfl | rfl | rfl | rfl | rfl | rfl | rfl | rfl | rfl
          all_goals
            simp only [List.getElem?_cons_succ, List.getElem?_cons_zero, Option.some.injEq] at ho'
            subst ho'
          · exact wp_of_run (run_move _ _ _ _ _ _ _ 13 _ h13) ⟨_, rfl, Below.refl _ _, rfl⟩
          · exact wp_of_run (run_move _ _ _ _ _ _ _ 15 _ h15) ⟨_, rfl, Below.refl _ _, rfl⟩
          · exact wp_of_run (run_move _ _ _ _ _ _ _ 15 _ h15) ⟨_, rfl, Below.refl _ _, rfl⟩
          · have q2 : A'.eval (.tmp 124) = .int .i64 k := hsee 124 (by decide) 2 rfl
            exact wp_of_run (run_next_int _ _ _ _ _ _ _ 124 k (by omega) q2) ⟨_, rfl, Below.refl _ _, rfl⟩
          · have q0 : A'.eval (.tmp 122) = .slice (some ⟨bg, og, none⟩) q gc := hsee 122 (by decide) 0 rfl
            have q1 : A'.eval (.tmp 123) = .int .i64 k := hsee 123 (by decide) 1 rfl
            have q3 : A'.eval (.tmp 125) = .int .i64 ((k + 1 : Nat) : Int) := hsee 125 (by decide) 3 rfl
            exact wp_of_run (run_cut_holds _ _ _ _ _ _ _ 122 123 125 bg og q gc k hkq hqg q0 q1 q3) ⟨_, rfl, Below.refl _ _, rfl⟩
          · exact wp_of_run (run_load_hold _ _ _ _ _ _ _ 16 gw _ _ _ _ h16 (whole_below HWY.out hb)) ⟨_, rfl, Below.refl _ _, rfl⟩
          · have q5 : A'.eval (.tmp 127) = .agg #[.string hid2, .string hve, .slice mo ml mc, .slice bo3 bl3 bc3] := hsee 127 (by decide) 5 rfl
            exact wp_of_run (run_one_hold _ _ _ _ _ _ _ 127 _ _ _ _ q5) ⟨_, rfl, (Below.refl _ _).alloc (Nat.le_refl _) _, _, rfl, Whole.new _ _ _⟩
          · have q4 : A'.eval (.tmp 126) = .slice (some ⟨bg, og + k * 4, none⟩) 1 (gc - k) := hsee 126 (by decide) 4 rfl
            obtain ⟨g, q6, q7⟩ : ∃ g, A'.eval (.tmp 128) = .slice (some ⟨g, 0, none⟩) 1 1 ∧ Whole w g 31 #[.string hid2, .string hve, .slice mo ml mc, .slice bo3 bl3 bc3] := hsee 128 (by decide) 6 rfl
            refine wp_of_call2 _ _ _ _ _ _ _ 15 _ 126 128 _ _ q4 q6 (by kernel_rfl) ?_
            refine (HSm.out w g hb q7).mono ?_
            rintro e' w' ⟨rfl, hb'⟩
            exact ⟨_, rfl, _, rfl, hb', rfl⟩
          · have q7 : A'.eval (.tmp 129) = .bool true := hsee 129 (by decide) 7 rfl
            exact wp_of_run (run_not _ _ _ _ _ _ _ 129 true q7) ⟨_, rfl, Below.refl _ _, rfl⟩
        · intro e X1 hb hall
          obtain ⟨_, h0, rfl⟩ := hall 0 (by decide)
          obtain ⟨_, h1, rfl⟩ := hall 1 (by decide)
          obtain ⟨_, h2, rfl⟩ := hall 2 (by decide)
          obtain ⟨_, h3, rfl⟩ := hall 3 (by decide)
          obtain ⟨_, h4, rfl⟩ := hall 4 (by decide)
          obtain ⟨_, h5x, rfl⟩ := hall 5 (by decide)
          obtain ⟨_, h6x, ⟨_, rfl, _⟩⟩ := hall 6 (by decide)
          obtain ⟨_, h7, rfl⟩ := hall 7 (by decide)
          obtain ⟨_, h8, rfl⟩ := hall 8 (by decide)
          have HX1 : Hid (Below Y.heap.size Y X1) := Lib.hid hb
          simp only [List.length_cons, List.length_nil, Nat.reduceAdd, fillTo, h0, h1, h2, h3, h4, h5x, h6x, h7, h8, dstOf]
          clear hall h0 h1 h2 h3 h4 h5x h6x h7 h8 hb
          go_simp
          go_wp2_with fail
          go_round
          case rel => exact ⟨k + 1, by omega, by go_num, Lib.hid (below_step HZ.out (below_step HBY.out HX1.out))⟩
          case measure => simp [intOf]; omega
        · intro j u w w' hu hb
          match j, hu with
          | 0, hu | 1, hu | 2, hu | 3, hu | 4, hu | 5, hu | 7, hu | 8, hu => exact hu
          | 6, ⟨g, q1, q2⟩ => exact ⟨g, q1, whole_below q2 hb⟩
          | _ + 9, _ => trivial
      | true =>
      cases cb with
      | true =>
        go_wp2_with fail
        refine (HIn1.out _ HBv'.out).mono ?_
        rintro e wq ⟨rfl, hw⟩
        subst hw
        go_wp2_with fail
        refine (HIn2.out _ HBv'.out).mono ?_
        rintro e wq ⟨rfl, hw⟩
        subst hw
        go_wp2_with fail
        obtain ⟨Y, HY⟩ : ∃ Y, Hid (Y = v) := ⟨_, Lib.hid rfl⟩
        obtain ⟨bo3, bl3, bc3, Hb3⟩ : ∃ a b c, Hid (a = bo2 ∧ b = bl ∧ c = bc2) := ⟨_, _, _, Lib.hid ⟨rfl, rfl, rfl⟩⟩
        have HBY : Hid (Below wr.heap.size wr Y) := Lib.hid (by rw [HY.out]; exact HBv.out)
        have HWY : Hid (Whole Y gw 31 #[.string hid2, .string hve, .slice mo ml mc, .slice bo3 bl3 bc3]) := Lib.hid (by rw [HY.out, Hb3.out.1, Hb3.out.2.1, Hb3.out.2.2]; exact HWv.out)
        have hgvh : Hld.gv x h = h := by rw [HGv.out]; rfl
        have HQ : Hid ((Hld.gv x h).id = hid2 ∧ (Hld.gv x h).vehicle = hve ∧ ml = (Hld.gv x h).members.length ∧ bl3 = (Hld.gv x h).back.length ∧ IsInts Y bo3 (Hld.gv x h).back) := Lib.hid (by
          rw [hgvh]
          exact ⟨Hhid.out.symm, Hhve.out.symm, Hml.out, by rw [Hb3.out.2.1]; exact Hbl.out, by rw [Hb3.out.1]; exact HM5.out.below HBY.out⟩)
        have hbl3 : bl3 ≤ 1001 := by rw [Hb3.out.2.1]; omega
        rw [← Hv.out, ← HY.out, ← Hgw.out, ← Hb3.out.1, ← Hb3.out.2.1, ← Hb3.out.2.2]
        clear hgvh
        have HSm : Hid (∀ Z g, Below Y.heap.size Y Z → Whole Z g 31 #[.string hid2, .string hve, .slice mo ml mc, .slice bo3 bl3 bc3] → Calls Try.prog 15 #[.slice (some ⟨bg, og + k * 4, none⟩) 1 (gc - k), .slice (some ⟨g, 0, none⟩) 1 1] Z fun e w' => e = .returned (.bool true) ∧ Below Z.heap.size Z w') := Lib.hid (fun Z g hZ hw => by
          have hL := HSG.out.below (below_step HBY.out hZ)
          have hq := HQ.out
          obtain ⟨z1, z2, z3, z4, z5⟩ := hq
          refine same_true _ _ (gc - k) 1 [Hld.gv x h] (by simp) (fun u hu => by rw [List.mem_singleton.1 hu, ← z4, ← z3]; omega) _ hL (holds_of_whole (h := Hld.gv x h) (mo := mo) (mc := mc) (bo := bo3) (bc := bc3) (by rw [z1, z2, ← z3, ← z4]; exact hw) ?_ (z5.below hZ))
          have : (Hld.gv x h).members = h.members := by unfold Hld.gv; split <;> first | exact Hld.give_members x h | rfl
          rw [this]
          exact HM4.out.below (below_step HBY.out hZ))
        apply wp_region_mono 132 (fun j u w => match j with | 0 => u = .slice (some ⟨bg, og, none⟩) q gc | 1 => u = .int .i64 k | 2 => u = .int .i64 k | 3 => u = .int .i64 ((k + 1 : Nat) : Int) | 4 => u = .slice (some ⟨bg, og + k * 4, none⟩) 1 (gc - k) | 5 => u = .agg #[.string hid2, .string hve, .slice mo ml mc, .slice bo3 bl3 bc3] | 6 => ∃ g, u = .slice (some ⟨g, 0, none⟩) 1 1 ∧ Whole w g 31 #[.string hid2, .string hve, .slice mo ml mc, .slice bo3 bl3 bc3] | 7 => u = .bool true | 8 => u = .bool false | _ => True) ?_ (by kernel_rfl) (by kernel_rfl) rfl
        · intro i o ho' w A' hb hsee haway
          have h13 : A'.eval (.tmp 13) = .slice (some ⟨bg, og, none⟩) q gc := (haway 13 (by kernel_rfl)).trans rfl
          have h15 : A'.eval (.tmp 15) = .int .i64 k := (haway 15 (by kernel_rfl)).trans rfl
          have h16 : A'.eval (.tmp 16) = .pointer (some ⟨gw, 0, none⟩) := (haway 16 (by kernel_rfl)).trans rfl
          have hi : i < 9 := by have := (List.getElem?_eq_some_iff.1 ho').1; simpa using this
          have hi : i = 0 ∨ i = 1 ∨ i = 2 ∨ i = 3 ∨ i = 4 ∨ i = 5 ∨ i = 6 ∨ i = 7 ∨ i = 8 := by omega
          rcases hi with rfl | rfl | rfl | rfl | rfl | rfl | rfl | rfl | rfl
          all_goals
            simp only [List.getElem?_cons_succ, List.getElem?_cons_zero, Option.some.injEq] at ho'
            subst ho'
          · exact wp_of_run (run_move _ _ _ _ _ _ _ 13 _ h13) ⟨_, rfl, Below.refl _ _, rfl⟩
          · exact wp_of_run (run_move _ _ _ _ _ _ _ 15 _ h15) ⟨_, rfl, Below.refl _ _, rfl⟩
          · exact wp_of_run (run_move _ _ _ _ _ _ _ 15 _ h15) ⟨_, rfl, Below.refl _ _, rfl⟩
          · have q2 : A'.eval (.tmp 124) = .int .i64 k := hsee 124 (by decide) 2 rfl
            exact wp_of_run (run_next_int _ _ _ _ _ _ _ 124 k (by omega) q2) ⟨_, rfl, Below.refl _ _, rfl⟩
          · have q0 : A'.eval (.tmp 122) = .slice (some ⟨bg, og, none⟩) q gc := hsee 122 (by decide) 0 rfl
            have q1 : A'.eval (.tmp 123) = .int .i64 k := hsee 123 (by decide) 1 rfl
            have q3 : A'.eval (.tmp 125) = .int .i64 ((k + 1 : Nat) : Int) := hsee 125 (by decide) 3 rfl
            exact wp_of_run (run_cut_holds _ _ _ _ _ _ _ 122 123 125 bg og q gc k hkq hqg q0 q1 q3) ⟨_, rfl, Below.refl _ _, rfl⟩
          · exact wp_of_run (run_load_hold _ _ _ _ _ _ _ 16 gw _ _ _ _ h16 (whole_below HWY.out hb)) ⟨_, rfl, Below.refl _ _, rfl⟩
          · have q5 : A'.eval (.tmp 127) = .agg #[.string hid2, .string hve, .slice mo ml mc, .slice bo3 bl3 bc3] := hsee 127 (by decide) 5 rfl
            exact wp_of_run (run_one_hold _ _ _ _ _ _ _ 127 _ _ _ _ q5) ⟨_, rfl, (Below.refl _ _).alloc (Nat.le_refl _) _, _, rfl, Whole.new _ _ _⟩
          · have q4 : A'.eval (.tmp 126) = .slice (some ⟨bg, og + k * 4, none⟩) 1 (gc - k) := hsee 126 (by decide) 4 rfl
            obtain ⟨g, q6, q7⟩ : ∃ g, A'.eval (.tmp 128) = .slice (some ⟨g, 0, none⟩) 1 1 ∧ Whole w g 31 #[.string hid2, .string hve, .slice mo ml mc, .slice bo3 bl3 bc3] := hsee 128 (by decide) 6 rfl
            refine wp_of_call2 _ _ _ _ _ _ _ 15 _ 126 128 _ _ q4 q6 (by kernel_rfl) ?_
            refine (HSm.out w g hb q7).mono ?_
            rintro e' w' ⟨rfl, hb'⟩
            exact ⟨_, rfl, _, rfl, hb', rfl⟩
          · have q7 : A'.eval (.tmp 129) = .bool true := hsee 129 (by decide) 7 rfl
            exact wp_of_run (run_not _ _ _ _ _ _ _ 129 true q7) ⟨_, rfl, Below.refl _ _, rfl⟩
        · intro e X1 hb hall
          obtain ⟨_, h0, rfl⟩ := hall 0 (by decide)
          obtain ⟨_, h1, rfl⟩ := hall 1 (by decide)
          obtain ⟨_, h2, rfl⟩ := hall 2 (by decide)
          obtain ⟨_, h3, rfl⟩ := hall 3 (by decide)
          obtain ⟨_, h4, rfl⟩ := hall 4 (by decide)
          obtain ⟨_, h5x, rfl⟩ := hall 5 (by decide)
          obtain ⟨_, h6x, ⟨_, rfl, _⟩⟩ := hall 6 (by decide)
          obtain ⟨_, h7, rfl⟩ := hall 7 (by decide)
          obtain ⟨_, h8, rfl⟩ := hall 8 (by decide)
          have HX1 : Hid (Below Y.heap.size Y X1) := Lib.hid hb
          simp only [List.length_cons, List.length_nil, Nat.reduceAdd, fillTo, h0, h1, h2, h3, h4, h5x, h6x, h7, h8, dstOf]
          clear hall h0 h1 h2 h3 h4 h5x h6x h7 h8 hb
          go_simp
          go_wp2_with fail
          go_round
          case rel => exact ⟨k + 1, by omega, by go_num, Lib.hid (below_step HZ.out (below_step HBY.out HX1.out))⟩
          case measure => simp [intOf]; omega
        · intro j u w w' hu hb
          match j, hu with
          | 0, hu | 1, hu | 2, hu | 3, hu | 4, hu | 5, hu | 7, hu | 8, hu => exact hu
          | 6, ⟨g, q1, q2⟩ => exact ⟨g, q1, whole_below q2 hb⟩
          | _ + 9, _ => trivial
      | false =>
        go_wp2_with fail
        refine (HIn1.out _ HBv'.out).mono ?_
        rintro e wq ⟨rfl, hw⟩
        subst hw
        go_wp2_with fail
        refine (HIn2.out _ HBv'.out).mono ?_
        rintro e wq ⟨rfl, hw⟩
        subst hw
        go_wp2_with fail
        rw [← Hv.out, ← Hgw.out]
        have hgwv : gw < v.heap.size := HWv.out.lt
        have hgxw : gx ≠ gw := by have := HBox9.out.lt; have := Hgw.out; omega
        have hgxv : gx < v.heap.size := HBoxv.out.lt
        have HVc : Hid (v.cell? ⟨gx, 0 + 1, none⟩ = some (.int .i64 au)) := Lib.hid (by rw [Hv.out]; exact b1)
        apply wp_region_ent 132 (BkL v gw (.string hid2) (.string hve) (.slice mo ml mc) bo2 bl bc2 h.back au (fun j u => match j with | 1 => u = .pointer (some ⟨gw, 3, none⟩) | 2 => u = .slice bo2 bl bc2 | 4 => u = .pointer (some ⟨gx, 0 + 1, none⟩) | 5 => u = .int .i64 au | 8 => u = .pointer (some ⟨gw, 3, none⟩) | _ => True)) (by kernel_rfl) (by kernel_rfl) rfl (BkL.start HWv.out)
        · intro i o ho' e w A' hT hei hwt hsee haway
          have h16 : A'.eval (.tmp 16) = .pointer (some ⟨gw, 0, none⟩) := (haway 16 (by kernel_rfl)).trans rfl
          have h6x : A'.eval (.tmp 6) = .pointer (some ⟨gx, 0, none⟩) := (haway 6 (by kernel_rfl)).trans rfl
          have hcell : w.cell? ⟨gx, 0 + 1, none⟩ = some (.int .i64 au) := (cell_far (N := gw) (fun b q1 q2 => hT.grown.block b q1 (fun e2 => q2 (Option.some.inj e2))) hgxv hgxw).trans HVc.out
          have hi : i < 10 := by have := (List.getElem?_eq_some_iff.1 ho').1; simpa using this
          have hi : i = 0 ∨ i = 1 ∨ i = 2 ∨ i = 3 ∨ i = 4 ∨ i = 5 ∨ i = 6 ∨ i = 7 ∨ i = 8 ∨ i = 9 := by omega
          rcases hi with rfl | rfl | rfl | rfl | rfl | rfl | rfl | rfl | rfl | rfl
          all_goals
            simp only [List.getElem?_cons_succ, List.getElem?_cons_zero, Option.some.injEq] at ho'
            subst ho'
          · exact wp_of_run (run_empty_ints _ _ _ _ _ _ _) ⟨_, rfl, hT.step (by decide) (by decide) ((Below.refl _ _).alloc (Nat.le_refl _) _) (fun _ => ⟨_, rfl, hT.grown.size, Whole.new _ _ _⟩) (fun h => absurd h (by decide)) (fun h => absurd h (by decide)) (fun h => absurd h (by decide)) trivial⟩
          · exact wp_of_run (run_field_back _ _ _ _ _ _ _ 16 gw h16) ⟨_, rfl, hT.step (by decide) (by decide) (Below.refl _ _) (fun h => absurd h (by decide)) (fun h => absurd h (by decide)) (fun h => absurd h (by decide)) (fun h => absurd h (by decide)) rfl⟩
          · have q := hT.pure 1 _ (hsee 114 (by decide) 1 rfl)
            exact wp_of_run (run_load_one _ _ _ _ _ _ _ _ (Or.inr rfl) 114 _ _ q ((hT.hold (hT.unstored hei)).cell 3)) ⟨_, rfl, hT.step (by decide) (by decide) (Below.refl _ _) (fun h => absurd h (by decide)) (fun h => absurd h (by decide)) (fun h => absurd h (by decide)) (fun h => absurd h (by decide)) rfl⟩
          · have e0 := hsee 113 (by decide) 0 rfl
            have e2 := hsee 115 (by decide) 2 rfl
            by_cases hC : e 7 = none
            · obtain ⟨g0, q1, q2, q3⟩ := hT.empty hC _ e0
              have q4 : A'.eval (.tmp 115) = .slice bo2 bl bc2 := hT.pure 2 _ e2
              have hin2 : IsInts w bo2 h.back := by
                rcases HM5.out with hh | ⟨bb, ob, hb1, hb2, hb3⟩
                · exact Or.inl hh
                · refine Or.inr ⟨bb, ob, hb1, Nat.lt_of_lt_of_le (Nat.lt_of_lt_of_le hb2 HBv.out.size) hT.grown.size, fun y hy => ?_⟩
                  exact (cell_far (N := gw) (fun b q1 q2 => hT.grown.block b q1 (fun e2 => q2 (Option.some.inj e2))) (Nat.lt_of_lt_of_le hb2 HBv.out.size) (by have := Hgw.out; omega)).trans ((cell_below HBv.out hb2).trans (hb3 y hy))
              obtain ⟨u, w', hr, r1, r2⟩ := run_copy_ints 29 g0 q3 v.heap.size q2 h.back bl Hbl.out (by omega) bo2 bc2 hin2
              exact wp_of_run (run_append_int _ _ _ _ _ _ _ w' 113 115 _ _ _ q1 q4 hr) ⟨_, rfl, hT.step (by decide) (by decide) r2 (fun h => absurd h (by decide)) (fun _ => r1) (fun h => absurd h (by decide)) (fun _ => by rw [e2]; simp) trivial⟩
            · exact absurd hei (hT.two hC).1
          · exact wp_of_run (run_field_auth _ _ _ _ _ _ _ 6 gx 0 h6x) ⟨_, rfl, hT.step (by decide) (by decide) (Below.refl _ _) (fun h => absurd h (by decide)) (fun h => absurd h (by decide)) (fun h => absurd h (by decide)) (fun h => absurd h (by decide)) rfl⟩
          · have q4 := hT.pure 4 _ (hsee 117 (by decide) 4 rfl)
            exact wp_of_run (run_load_one _ _ _ _ _ _ _ _ (Or.inl rfl) 117 _ _ q4 hcell) ⟨_, rfl, hT.step (by decide) (by decide) (Below.refl _ _) (fun h => absurd h (by decide)) (fun h => absurd h (by decide)) (fun h => absurd h (by decide)) (fun h => absurd h (by decide)) rfl⟩
          · have q5 := hT.pure 5 _ (hsee 118 (by decide) 5 rfl)
            exact wp_of_run (run_one_int _ _ _ _ _ _ _ 118 au q5) ⟨_, rfl, hT.step (by decide) (by decide) ((Below.refl _ _).alloc (Nat.le_refl _) _) (fun h => absurd h (by decide)) (fun h => absurd h (by decide)) (fun _ => ⟨_, rfl, Whole.new _ _ _⟩) (fun h => absurd h (by decide)) trivial⟩
          · have e3 := hsee 116 (by decide) 3 rfl
            have e6 := hsee 119 (by decide) 6 rfl
            have q3 := hT.copy hei _ e3
            obtain ⟨g1, q9, q10⟩ := hT.one hei _ e6
            obtain ⟨u, w', hr, r1, r2⟩ := bk_append 29 (by omega) hT.grown.size q3 q10
            exact wp_of_run (run_append_int _ _ _ _ _ _ _ w' 116 119 _ _ _ rfl q9 hr) ⟨_, rfl, hT.grow hgwv hei (by rw [e3]; simp) (by rw [e6]; simp) q3 r2 r1 trivial⟩
          · exact wp_of_run (run_field_back _ _ _ _ _ _ _ 16 gw h16) ⟨_, rfl, hT.step (by decide) (by decide) (Below.refl _ _) (fun h => absurd h (by decide)) (fun h => absurd h (by decide)) (fun h => absurd h (by decide)) (fun h => absurd h (by decide)) rfl⟩
          · have e7 := hsee 120 (by decide) 7 rfl
            have q8 := hT.pure 8 _ (hsee 121 (by decide) 8 rfl)
            obtain ⟨ao2, c2, hs2⟩ := owns_shape (hT.new _ e7)
            rw [hs2] at e7
            exact wp_of_skip (run_store_back _ _ _ _ _ _ _ 121 120 gw _ _ _ _ _ (hT.hold hei) (by simp) q8 hs2) ⟨_, rfl, hT.store hgwv hei e7 trivial⟩
        intro e Y hT hall
        obtain ⟨v0', h0⟩ := hall 0 (by decide)
        obtain ⟨v1', h1⟩ := hall 1 (by decide)
        obtain ⟨v2', h2⟩ := hall 2 (by decide)
        obtain ⟨v3', h3⟩ := hall 3 (by decide)
        obtain ⟨v4', h4⟩ := hall 4 (by decide)
        obtain ⟨v5', h5'⟩ := hall 5 (by decide)
        obtain ⟨v6', h6'⟩ := hall 6 (by decide)
        obtain ⟨v7', h7⟩ := hall 7 (by decide)
        obtain ⟨v8', h8⟩ := hall 8 (by decide)
        obtain ⟨v9', h9⟩ := hall 9 (by decide)
        obtain ⟨vn, hvn, hWn⟩ := hT.done _ h9
        have hrow := hT.new _ hvn
        obtain ⟨bo3, bc3, rfl⟩ := owns_shape hrow
        obtain ⟨bl3, Hbl3⟩ : ∃ n, Hid (n = bl + 1) := ⟨_, Lib.hid rfl⟩
        have hgvb : Hld.gv x h = { h with back := h.back ++ [au] } := by rw [HGv.out]; rfl
        have HBY : Hid (Below wr.heap.size wr Y) := Lib.hid (HBv.out.grown hT.grown HBv.out.size (fun y e2 => by cases e2; rw [Hgw.out]; exact Nat.le_refl _))
        have HWY : Hid (Whole Y gw 31 #[.string hid2, .string hve, .slice mo ml mc, .slice bo3 bl3 bc3]) := Lib.hid (by rw [Hbl3.out]; exact hWn)
        have HQ : Hid ((Hld.gv x h).id = hid2 ∧ (Hld.gv x h).vehicle = hve ∧ ml = (Hld.gv x h).members.length ∧ bl3 = (Hld.gv x h).back.length ∧ IsInts Y bo3 (Hld.gv x h).back) := Lib.hid (by
          have hl : (h.back ++ [au]).length = bl + 1 := by rw [List.length_append, ← Hbl.out]; rfl
          have hz : intsC (h.back ++ [au]) = intsC h.back ++ [.int .i64 au] := by unfold intsC; rw [List.map_append]; rfl
          rw [hgvb]
          refine ⟨Hhid.out.symm, Hhve.out.symm, Hml.out, by rw [Hbl3.out]; exact hl.symm, ?_⟩
          apply ints_of_row (B := v.heap.size) (c := bc3)
          show Y.ownsRow _ _ _ (.slice bo3 (h.back ++ [au]).length bc3) (h.back ++ [au]).length (intsC (h.back ++ [au]))
          rw [hl, hz]
          exact hrow)
        have hbl3 : bl3 ≤ 1001 := by rw [Hbl3.out]; omega
        rw [← Hbl3.out] at hvn
        simp only [List.length_cons, List.length_nil, Nat.reduceAdd, fillTo, h0, h1, h2, h3, h4, h5', h6', h7, h8, h9, dstOf]
        clear hT hall h0 h1 h2 h3 h4 h5' h6' h7 h8 h9 hvn hWn hrow hgvb
        go_simp
        go_wp2_with fail
        have HSm : Hid (∀ Z g, Below Y.heap.size Y Z → Whole Z g 31 #[.string hid2, .string hve, .slice mo ml mc, .slice bo3 bl3 bc3] → Calls Try.prog 15 #[.slice (some ⟨bg, og + k * 4, none⟩) 1 (gc - k), .slice (some ⟨g, 0, none⟩) 1 1] Z fun e w' => e = .returned (.bool true) ∧ Below Z.heap.size Z w') := Lib.hid (fun Z g hZ hw => by
          have hL := HSG.out.below (below_step HBY.out hZ)
          have hq := HQ.out
          obtain ⟨z1, z2, z3, z4, z5⟩ := hq
          refine same_true _ _ (gc - k) 1 [Hld.gv x h] (by simp) (fun u hu => by rw [List.mem_singleton.1 hu, ← z4, ← z3]; omega) _ hL (holds_of_whole (h := Hld.gv x h) (mo := mo) (mc := mc) (bo := bo3) (bc := bc3) (by rw [z1, z2, ← z3, ← z4]; exact hw) ?_ (z5.below hZ))
          have : (Hld.gv x h).members = h.members := by unfold Hld.gv; split <;> first | exact Hld.give_members x h | rfl
          rw [this]
          exact HM4.out.below (below_step HBY.out hZ))
        apply wp_region_mono 132 (fun j u w => match j with | 0 => u = .slice (some ⟨bg, og, none⟩) q gc | 1 => u = .int .i64 k | 2 => u = .int .i64 k | 3 => u = .int .i64 ((k + 1 : Nat) : Int) | 4 => u = .slice (some ⟨bg, og + k * 4, none⟩) 1 (gc - k) | 5 => u = .agg #[.string hid2, .string hve, .slice mo ml mc, .slice bo3 bl3 bc3] | 6 => ∃ g, u = .slice (some ⟨g, 0, none⟩) 1 1 ∧ Whole w g 31 #[.string hid2, .string hve, .slice mo ml mc, .slice bo3 bl3 bc3] | 7 => u = .bool true | 8 => u = .bool false | _ => True) ?_ (by kernel_rfl) (by kernel_rfl) rfl
        · intro i o ho' w A' hb hsee haway
          have h13 : A'.eval (.tmp 13) = .slice (some ⟨bg, og, none⟩) q gc := (haway 13 (by kernel_rfl)).trans rfl
          have h15 : A'.eval (.tmp 15) = .int .i64 k := (haway 15 (by kernel_rfl)).trans rfl
          have h16 : A'.eval (.tmp 16) = .pointer (some ⟨gw, 0, none⟩) := (haway 16 (by kernel_rfl)).trans rfl
          have hi : i < 9 := by have := (List.getElem?_eq_some_iff.1 ho').1; simpa using this
          have hi : i = 0 ∨ i = 1 ∨ i = 2 ∨ i = 3 ∨ i = 4 ∨ i = 5 ∨ i = 6 ∨ i = 7 ∨ i = 8 := by omega
          rcases hi with rfl | rfl | rfl | rfl | rfl | rfl | rfl | rfl | rfl
          all_goals
            simp only [List.getElem?_cons_succ, List.getElem?_cons_zero, Option.some.injEq] at ho'
            subst ho'
          · exact wp_of_run (run_move _ _ _ _ _ _ _ 13 _ h13) ⟨_, rfl, Below.refl _ _, rfl⟩
          · exact wp_of_run (run_move _ _ _ _ _ _ _ 15 _ h15) ⟨_, rfl, Below.refl _ _, rfl⟩
          · exact wp_of_run (run_move _ _ _ _ _ _ _ 15 _ h15) ⟨_, rfl, Below.refl _ _, rfl⟩
          · have q2 : A'.eval (.tmp 124) = .int .i64 k := hsee 124 (by decide) 2 rfl
            exact wp_of_run (run_next_int _ _ _ _ _ _ _ 124 k (by omega) q2) ⟨_, rfl, Below.refl _ _, rfl⟩
          · have q0 : A'.eval (.tmp 122) = .slice (some ⟨bg, og, none⟩) q gc := hsee 122 (by decide) 0 rfl
            have q1 : A'.eval (.tmp 123) = .int .i64 k := hsee 123 (by decide) 1 rfl
            have q3 : A'.eval (.tmp 125) = .int .i64 ((k + 1 : Nat) : Int) := hsee 125 (by decide) 3 rfl
            exact wp_of_run (run_cut_holds _ _ _ _ _ _ _ 122 123 125 bg og q gc k hkq hqg q0 q1 q3) ⟨_, rfl, Below.refl _ _, rfl⟩
          · exact wp_of_run (run_load_hold _ _ _ _ _ _ _ 16 gw _ _ _ _ h16 (whole_below HWY.out hb)) ⟨_, rfl, Below.refl _ _, rfl⟩
          · have q5 : A'.eval (.tmp 127) = .agg #[.string hid2, .string hve, .slice mo ml mc, .slice bo3 bl3 bc3] := hsee 127 (by decide) 5 rfl
            exact wp_of_run (run_one_hold _ _ _ _ _ _ _ 127 _ _ _ _ q5) ⟨_, rfl, (Below.refl _ _).alloc (Nat.le_refl _) _, _, rfl, Whole.new _ _ _⟩
          · have q4 : A'.eval (.tmp 126) = .slice (some ⟨bg, og + k * 4, none⟩) 1 (gc - k) := hsee 126 (by decide) 4 rfl
            obtain ⟨g, q6, q7⟩ : ∃ g, A'.eval (.tmp 128) = .slice (some ⟨g, 0, none⟩) 1 1 ∧ Whole w g 31 #[.string hid2, .string hve, .slice mo ml mc, .slice bo3 bl3 bc3] := hsee 128 (by decide) 6 rfl
            refine wp_of_call2 _ _ _ _ _ _ _ 15 _ 126 128 _ _ q4 q6 (by kernel_rfl) ?_
            refine (HSm.out w g hb q7).mono ?_
            rintro e' w' ⟨rfl, hb'⟩
            exact ⟨_, rfl, _, rfl, hb', rfl⟩
          · have q7 : A'.eval (.tmp 129) = .bool true := hsee 129 (by decide) 7 rfl
            exact wp_of_run (run_not _ _ _ _ _ _ _ 129 true q7) ⟨_, rfl, Below.refl _ _, rfl⟩
        · intro e X1 hb hall
          obtain ⟨_, h0, rfl⟩ := hall 0 (by decide)
          obtain ⟨_, h1, rfl⟩ := hall 1 (by decide)
          obtain ⟨_, h2, rfl⟩ := hall 2 (by decide)
          obtain ⟨_, h3, rfl⟩ := hall 3 (by decide)
          obtain ⟨_, h4, rfl⟩ := hall 4 (by decide)
          obtain ⟨_, h5x, rfl⟩ := hall 5 (by decide)
          obtain ⟨_, h6x, ⟨_, rfl, _⟩⟩ := hall 6 (by decide)
          obtain ⟨_, h7, rfl⟩ := hall 7 (by decide)
          obtain ⟨_, h8, rfl⟩ := hall 8 (by decide)
          have HX1 : Hid (Below Y.heap.size Y X1) := Lib.hid hb
          simp only [List.length_cons, List.length_nil, Nat.reduceAdd, fillTo, h0, h1, h2, h3, h4, h5x, h6x, h7, h8, dstOf]
          clear hall h0 h1 h2 h3 h4 h5x h6x h7 h8 hb
          go_simp
          go_wp2_with fail
          go_round
          case rel => exact ⟨k + 1, by omega, by go_num, Lib.hid (below_step HZ.out (below_step HBY.out HX1.out))⟩
          case measure => simp [intOf]; omega
        · intro j u w w' hu hb
          match j, hu with
          | 0, hu | 1, hu | 2, hu | 3, hu | 4, hu | 5, hu | 7, hu | 8, hu => exact hu
          | 6, ⟨g, q1, q2⟩ => exact ⟨g, q1, whole_below q2 hb⟩
          | _ + 9, _ => trivial
    · obtain rfl : k = q := by omega
      have hd : decide ((k : Int) < (k : Int)) = false := decide_eq_false (by omega)
      go_wp2_with fail
      go_ret
      exact ⟨rfl, below_step HB8.out HZ.out⟩

theorem backs_row (ids : List ByteArray) (io : Option Addr) (ic : Nat) (hm : ids.length * 16 ≤ 140737488351232) (recs : List Rc) (ro : Option Addr) (rc : Nat) (hn : recs.length * 480 ≤ 140737488351232) (x : Rc) (hx : RcOk x) (id : ByteArray) (hid9 : id.size ≤ 9223372036854775807) (W : World) (hi : IsStrs W io ids) (hr : IsRecs W ro recs) (hxm : IsInts W x.mo x.members) :
    Calls Try.prog 4 #[.slice io ids.length ic, .slice ro recs.length rc, .agg x.cells.toArray, .string id] W fun e w' => e = .returned (.bool true) ∧ Below W.heap.size W w' := backs_any ids recs x id hid9 io ro ic rc hn hm W hi hr hx hxm

end Go.Proofs.Ytfokbcakbbdlaaa
