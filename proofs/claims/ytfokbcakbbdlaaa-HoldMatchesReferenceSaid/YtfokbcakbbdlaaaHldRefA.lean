/- The reference's Out and made. -/
import Derived.Test.YtfokbcakbbdlaaaHldRefM
import Derived.Test.YtfokbcakbbdlaaaHldHead
namespace Go.Proofs.Ytfokbcakbbdlaaa
open Go.RowKit
open Hld (Rc Hd)

set_option maxRecDepth 100000 in
set_option maxHeartbeats 4000000 in
theorem refOut_any (h : Hd) (mo : Option Addr) (mc : Nat) (bo : Option Addr) (bc : Nat) (hl : h.back.length ≤ 9223372036854775807) (hm : h.members.length ≤ 9223372036854775807) (W : World) (hms : IsInts W mo h.members) (hb : IsInts W bo h.back) :
    Calls Try.prog 14 #[hdV h mo mc bo bc] W fun e w' => e = .returned (.bool (Hld.out h)) ∧ Below W.heap.size W w' := by
  have HIn := Lib.hid (fun w (hw : Below W.heap.size W w) z => in_any bo h.back bc z hl w (hb.below hw))
  have HMs := Lib.hid hms
  obtain ⟨ml, Hml⟩ : ∃ n, Hid (n = h.members.length) := ⟨_, Lib.hid rfl⟩
  obtain ⟨bl, Hbl⟩ : ∃ n, Hid (n = h.back.length) := ⟨_, Lib.hid rfl⟩
  obtain ⟨id, Hi⟩ : ∃ n, Hid (n = h.id) := ⟨_, Lib.hid rfl⟩
  obtain ⟨ve, Hv⟩ : ∃ n, Hid (n = h.vehicle) := ⟨_, Lib.hid rfl⟩
  obtain ⟨o, Ho⟩ : ∃ n, Hid (n = Hld.out h) := ⟨_, Lib.hid rfl⟩
  unfold hdV
  rw [← Hml.out] at hm
  rw [← Hml.out, ← Hbl.out, ← Hi.out, ← Hv.out, ← Ho.out]
  rw [← Hbl.out] at HIn
  clear hms hb hl
  go_enter Try.func14, Try.ntmps14
  go_wp2_with fail
  obtain ⟨g, Hg⟩ : ∃ g, Hid (g = W.heap.size) := ⟨_, Lib.hid rfl⟩
  obtain ⟨v, Hvv⟩ : ∃ v, Hid (v = W.alloc (.cells #[.string id, .string ve, .slice mo ml mc, .slice bo bl bc] 31)) := ⟨_, Lib.hid rfl⟩
  have HWv : Hid (Whole v g 31 #[.string id, .string ve, .slice mo ml mc, .slice bo bl bc]) := Lib.hid (by rw [Hvv.out, Hg.out]; exact Whole.new _ _ _)
  have HBv : Hid (Below W.heap.size W v) := Lib.hid (by rw [Hvv.out]; exact (Below.refl _ _).alloc (Nat.le_refl _) _)
  rw [← Hvv.out, ← Hg.out]
  go_loopw [3] (fun i wr => ∃ k : Nat, k ≤ ml ∧ i = .int .i64 k ∧ Hid (Below v.heap.size v wr ∧ ∀ z ∈ h.members.take k, h.back.contains z = true)) (fun i _ => ml - (intOf i).toNat)
  case atStart => exact ⟨0, Nat.zero_le _, by go_num, Lib.hid ⟨Below.refl _ _, by simp⟩⟩
  case round =>
    obtain ⟨k, hk, rfl, HX⟩ := hrel
    have HWr := Lib.hid (whole_below HWv.out HX.out.1)
    have c2 : wr.cell? ⟨g, 2, none⟩ = some (.slice mo ml mc) := HWr.out.cell 2
    by_cases hkn : k < ml
    · have hd : decide ((k : Int) < (ml : Int)) = true := decide_eq_true (by omega)
      have hb0 : (0 : Int) ≤ k := by omega
      have hb1 : (k : Int) < ml := by omega
      have hkm : k < h.members.length := by rw [← Hml.out]; exact hkn
      have hBW := below_step HBv.out HX.out.1
      obtain ⟨bk, off, rfl, hbk, hc⟩ := (HMs.out.below hBW).at hkm
      obtain ⟨z, Hz⟩ : ∃ z, Hid (z = h.members[k]) := ⟨_, Lib.hid rfl⟩
      rw [← Hz.out] at hc
      have HC1 : Hid (∀ X : Grown wr, Calls Try.prog 18 #[.slice bo bl bc, .int .i64 z] X.w fun e w' => e = .returned (.bool (h.back.contains z)) ∧ X.w = w') := Lib.hid (fun X => HIn.out X.w (below_step hBW X.below) z)
      obtain ⟨cz, Hcz⟩ : ∃ c, Hid (c = h.back.contains z) := ⟨_, Lib.hid rfl⟩
      rw [← Hcz.out] at HC1
      have gz2 : ∀ X : Grown wr, X.w.cell? ⟨g, 2, none⟩ = some (.slice (some ⟨bk, off, none⟩) ml mc) := fun X => by rw [X.cell HWr.out.lt]; exact c2
      have gz3 : ∀ X : Grown wr, X.w.cell? ⟨g, 3, none⟩ = some (.slice bo bl bc) := fun X => by rw [X.cell HWr.out.lt]; exact HWr.out.cell 3
      have gz4 : ∀ X : Grown wr, X.w.cell? ⟨bk, off + k, none⟩ = some (.int .i64 z) := fun X => by rw [X.cell hbk]; exact hc
      go_wp2_with fail
      refine wp_region_grown (by kernel_rfl) (by kernel_rfl) ?_
      repeat (go_big_quiet_step (exact grown_of_same (HC1.out _)))
      refine wpQuiet_nil ?_
      rintro _ ⟨X, rfl⟩
      have HBX := Lib.hid (below_step HX.out.1 X.below)
      cases cz with
      | false =>
        have ho : o = true := by
          rw [Ho.out]
          unfold Hld.out
          rw [List.any_eq_true]
          exact ⟨z, by rw [Hz.out]; exact List.getElem_mem hkm, by rw [← Hcz.out]; rfl⟩
        subst ho
        go_wp2_with fail
        go_ret
        exact ⟨rfl, below_step HBv.out HBX.out⟩
      | true =>
        have HN : Hid (∀ y ∈ h.members.take (k + 1), h.back.contains y = true) := Lib.hid (fun y hy => by
          rw [List.take_succ_eq_append_getElem hkm] at hy
          rcases List.mem_append.1 hy with hy | hy
          · exact HX.out.2 y hy
          · rw [List.mem_singleton.1 hy, ← Hz.out]; exact Hcz.out.symm)
        go_wp2_with fail
        go_round
        case rel => exact ⟨k + 1, by omega, by go_num, Lib.hid ⟨HBX.out, HN.out⟩⟩
        case measure => simp [intOf]; omega
    · obtain rfl : k = ml := by omega
      have hd : decide ((k : Int) < (k : Int)) = false := decide_eq_false (by omega)
      have ho : o = false := by
        rw [Ho.out]
        unfold Hld.out
        rw [List.any_eq_false]
        intro z hz
        have := HX.out.2 z (by rw [List.take_of_length_le (by rw [Hml.out]; exact Nat.le_refl _)]; exact hz)
        rw [this]; simp
      subst ho
      go_wp2_with fail
      go_ret
      exact ⟨rfl, below_step HBv.out HX.out.1⟩

set_option maxRecDepth 100000 in
set_option maxHeartbeats 4000000 in
theorem refMade_any (ids : List ByteArray) (recs : List Rc) (io ro : Option Addr) (ic rc : Nat) (hn : recs.length ≤ 100000) (hne : ids.length = recs.length) (t : Nat) (ht : t < (ids.zip recs).length) (W : World) (hi : IsStrs W io ids) (hr : IsRecs W ro recs) :
    Calls Try.prog 25 #[.slice io ids.length ic, .slice ro recs.length rc, .int .i64 t] W fun e w' => e = .returned (.bool (Hld.madeB ((ids.zip recs).take t) (ids.zip recs)[t])) ∧ Below W.heap.size W w' := by
  obtain ⟨n, Hn⟩ : ∃ n, Hid (n = recs.length) := ⟨_, Lib.hid rfl⟩
  have HNe := Lib.hid hne
  have HI := Lib.hid hi
  have HR := Lib.hid hr
  obtain ⟨P, HP⟩ : ∃ P, Hid (P = ids.zip recs) := ⟨_, Lib.hid rfl⟩
  have HPl : Hid (P.length = n) := Lib.hid (by rw [HP.out, List.length_zip, HNe.out, Nat.min_self]; exact Hn.out.symm)
  obtain ⟨o, Ho⟩ : ∃ n, Hid (n = Hld.madeB ((ids.zip recs).take t) (ids.zip recs)[t]) := ⟨_, Lib.hid rfl⟩
  rw [← Ho.out, hne, ← Hn.out]
  have htn : t < n := by rw [← HPl.out, HP.out]; exact ht
  rw [← Hn.out] at hn
  have htr : t < recs.length := by rw [← Hn.out]; exact htn
  have hti : t < ids.length := by rw [HNe.out]; exact htr
  have HPt : Hid (∀ k (h1 : k < P.length) (h2 : k < ids.length) (h3 : k < recs.length), P[k] = (ids[k], recs[k])) := Lib.hid (fun k h1 h2 h3 => by simp only [HP.out, List.getElem_zip])
  obtain ⟨bk, off, rfl, hbk, hrg, hok, -⟩ := hr.at htr
  obtain ⟨bi, ofi, rfl, hbi, hci⟩ := hi.at hti
  obtain ⟨s, Hs⟩ : ∃ u, Hid (u = ids[t]) := ⟨_, Lib.hid rfl⟩
  obtain ⟨kd, Hkd⟩ : ∃ u, Hid (u = recs[t].kind) := ⟨_, Lib.hid rfl⟩
  obtain ⟨ml, Hml⟩ : ∃ u, Hid (u = recs[t].members.length) := ⟨_, Lib.hid rfl⟩
  obtain ⟨mo, Hmo⟩ : ∃ u, Hid (u = recs[t].mo) := ⟨_, Lib.hid rfl⟩
  obtain ⟨mc, Hmc⟩ : ∃ u, Hid (u = recs[t].mc) := ⟨_, Lib.hid rfl⟩
  have c0 := hrg 0 _ hok.c0
  have c8 := hrg 8 _ hok.c8
  rw [Nat.add_zero, ← Hkd.out] at c0
  rw [← Hml.out, ← Hmo.out, ← Hmc.out] at c8
  rw [← Hs.out] at hci
  have hb0 : (0 : Int) ≤ t := by omega
  have hb1 : (t : Int) < n := by omega
  have HO : Hid (o = (decide (kd = 5) && (decide (ml ≠ 0) && !((P.take t).any fun y => Hld.makes y.2 && decide (y.1 = s))))) := Lib.hid (by
    have e := HPt.out t (by rw [HP.out]; exact ht) hti htr
    simp only [HP.out] at e
    rw [Ho.out, HP.out]
    unfold Hld.madeB Hld.makes
    rw [e]
    dsimp only
    rw [← Hkd.out, ← Hs.out, Bool.and_assoc]
    have e2 : decide (recs[t].members ≠ []) = decide (ml ≠ 0) := by
      rw [Hml.out]
      congr 1
      exact propext ⟨fun h e => h (List.eq_nil_of_length_eq_zero e), fun h e => h (by rw [e]; rfl)⟩
    rw [e2])
  clear hi hr hrg hok hne
  go_enter Try.func25, Try.ntmps25
  by_cases h5 : kd = 5
  case neg =>
    have e5 : (kd != 5) = true := by
      have : (kd == 5) = false := by simpa using h5
      show (!(kd == 5)) = true
      rw [this]; rfl
    have ho : o = false := by rw [HO.out, decide_eq_false h5]; rfl
    subst ho
    go_wp2_with fail
    go_ret
    exact ⟨rfl, Below.refl _ _⟩
  have e5 : (kd != 5) = false := by rw [h5]; rfl
  by_cases h0 : ml = 0
  · have e0 : ((ml : Int) == 0) = true := by rw [h0]; rfl
    have ho : o = false := by rw [HO.out, decide_eq_true h5, h0]; rfl
    subst ho
    clear h0
    go_wp2_with fail
    go_ret
    exact ⟨rfl, Below.refl _ _⟩
  have e0 : ((ml : Int) == 0) = false := by
    have : ((ml : Int) == 0) = decide ((ml : Int) = 0) := rfl
    rw [this, decide_eq_false]; omega
  have HO2 : Hid (o = !((P.take t).any fun y => Hld.makes y.2 && decide (y.1 = s))) := Lib.hid (by rw [HO.out, decide_eq_true h5, decide_eq_true h0]; rfl)
  go_wp2_with fail
  clear c0 c8 h5
  go_loopw [7] (fun i wr => ∃ k : Nat, k ≤ t ∧ i = .int .i64 k ∧ Hid (Below W.heap.size W wr ∧ ∀ y ∈ P.take k, (Hld.makes y.2 && decide (y.1 = s)) = false)) (fun i _ => t - (intOf i).toNat)
  case atStart => exact ⟨0, Nat.zero_le _, by go_num, Lib.hid ⟨Below.refl _ _, by simp⟩⟩
  case round =>
    obtain ⟨k, hk, rfl, HX⟩ := hrel
    by_cases hkn : k < t
    · have hd : decide ((k : Int) < (t : Int)) = true := decide_eq_true (by omega)
      have ha0 : (0 : Int) ≤ k := by omega
      have ha1 : (k : Int) < n := by omega
      have hkr : k < recs.length := by rw [← Hn.out]; omega
      have hki : k < ids.length := by rw [HNe.out]; exact hkr
      have hkP : k < P.length := by rw [HPl.out]; omega
      obtain ⟨bk', off', e1, hbk', hrg, hok, -⟩ := HR.out.at hkr
      obtain ⟨bi', ofi', e2, hbi', hci'⟩ := HI.out.at hki
      obtain ⟨rfl, rfl⟩ : bk = bk' ∧ off = off' := by simpa using e1
      obtain ⟨rfl, rfl⟩ : bi = bi' ∧ ofi = ofi' := by simpa using e2
      obtain ⟨s2, Hs2⟩ : ∃ u, Hid (u = ids[k]) := ⟨_, Lib.hid rfl⟩
      obtain ⟨kd2, Hkd2⟩ : ∃ u, Hid (u = recs[k].kind) := ⟨_, Lib.hid rfl⟩
      obtain ⟨ml2, Hml2⟩ : ∃ u, Hid (u = recs[k].members.length) := ⟨_, Lib.hid rfl⟩
      obtain ⟨mo2, Hmo2⟩ : ∃ u, Hid (u = recs[k].mo) := ⟨_, Lib.hid rfl⟩
      obtain ⟨mc2, Hmc2⟩ : ∃ u, Hid (u = recs[k].mc) := ⟨_, Lib.hid rfl⟩
      have c0 := hrg 0 _ hok.c0
      have c8 := hrg 8 _ hok.c8
      rw [Nat.add_zero, ← Hkd2.out] at c0
      rw [← Hml2.out, ← Hmo2.out, ← Hmc2.out] at c8
      rw [← Hs2.out] at hci'
      have HB := HX.out.1
      have gz0 : ∀ X : Grown wr, X.w.cell? ⟨bk, off + k * 36, none⟩ = some (.int .i64 kd2) := fun X => (cell_below (below_step HB X.below) hbk).trans c0
      have gz8 : ∀ X : Grown wr, X.w.cell? ⟨bk, off + k * 36 + 8, none⟩ = some (.slice mo2 ml2 mc2) := fun X => (cell_below (below_step HB X.below) hbk).trans c8
      have gzi : ∀ X : Grown wr, X.w.cell? ⟨bi, ofi + k, none⟩ = some (.string s2) := fun X => (cell_below (below_step HB X.below) hbi).trans hci'
      have gzt : ∀ X : Grown wr, X.w.cell? ⟨bi, ofi + t, none⟩ = some (.string s) := fun X => (cell_below (below_step HB X.below) hbi).trans hci
      have HT : Hid (∀ b, (decide (kd2 = 5) && (decide (0 < ml2) && decide (s2 = s))) = b → (Hld.makes P[k].2 && decide (P[k].1 = s)) = b) := Lib.hid (fun b hb => by
        rw [HPt.out k hkP hki hkr]
        unfold Hld.makes
        dsimp only
        rw [← Hkd2.out, ← Hs2.out, ← hb, Bool.and_assoc]
        have e2 : decide (recs[k].members ≠ []) = decide (0 < ml2) := by
          rw [Hml2.out]
          congr 1
          exact propext ⟨fun h => List.length_pos_iff.2 h, fun h => List.length_pos_iff.1 h⟩
        rw [e2])
      have HGo : Hid ((Hld.makes P[k].2 && decide (P[k].1 = s)) = false → ∀ y ∈ P.take (k + 1), (Hld.makes y.2 && decide (y.1 = s)) = false) := Lib.hid (fun hf y hy => by
        rw [List.take_succ_eq_append_getElem hkP] at hy
        rcases List.mem_append.1 hy with hy | hy
        · exact HX.out.2 y hy
        · rw [List.mem_singleton.1 hy]; exact hf)
      clear c0 c8 hci' hrg hok e1 e2
      by_cases q5 : kd2 = 5
      case neg =>
        have f5 : (kd2 == 5) = false := by simpa using q5
        have HN := Lib.hid (HGo.out (HT.out false (by rw [decide_eq_false q5]; rfl)))
        clear q5
        go_wp2_with fail
        refine wp_region_grown (by kernel_rfl) (by kernel_rfl) ?_
        repeat (go_big_quiet_step (fail))
        refine wpQuiet_nil ?_
        rintro _ ⟨X, rfl⟩
        go_wp2_with fail
        go_round
        case rel => exact ⟨k + 1, by omega, by go_num, Lib.hid ⟨below_step HB X.below, HN.out⟩⟩
        case measure => simp [intOf]; omega
      have f5 : (kd2 == 5) = true := by simpa using q5
      by_cases q0 : 0 < ml2
      case neg =>
        have f0 : decide ((0 : Int) < (ml2 : Int)) = false := decide_eq_false (by omega)
        have f1 : decide (0 < ml2) = false := decide_eq_false q0
        have HN := Lib.hid (HGo.out (HT.out false (by rw [decide_eq_false q0]; simp)))
        clear q5 q0
        go_wp2_with fail
        refine wp_region_grown (by kernel_rfl) (by kernel_rfl) ?_
        repeat (go_big_quiet_step (fail))
        refine wpQuiet_nil ?_
        rintro _ ⟨X, rfl⟩
        go_wp2_with fail
        go_round
        case rel => exact ⟨k + 1, by omega, by go_num, Lib.hid ⟨below_step HB X.below, HN.out⟩⟩
        case measure => simp [intOf]; omega
      have f0 : decide ((0 : Int) < (ml2 : Int)) = true := decide_eq_true (by omega)
      have f1 : decide (0 < ml2) = true := decide_eq_true q0
      by_cases qs : s2 = s
      · have fs : (s2.toList == s.toList) = true := by rw [qs]; exact beq_self_eq_true _
        have HY := HT.out true (by rw [decide_eq_true q5, decide_eq_true q0, decide_eq_true qs]; rfl)
        have ho : o = false := by
          rw [HO2.out]
          have : ((P.take t).any fun y => Hld.makes y.2 && decide (y.1 = s)) = true := by
            rw [List.any_eq_true]
            exact ⟨P[k], by rw [List.mem_take_iff_getElem]; exact ⟨k, by omega, rfl⟩, HY⟩
          rw [this]; rfl
        subst ho
        clear q5 q0 qs HY
        go_wp2_with fail
        refine wp_region_grown (by kernel_rfl) (by kernel_rfl) ?_
        repeat (go_big_quiet_step (fail))
        refine wpQuiet_nil ?_
        rintro _ ⟨X, rfl⟩
        go_wp2_with fail
        go_ret
        exact ⟨rfl, below_step HB X.below⟩
      · have fs : (s2.toList == s.toList) = false := bytes_ne qs
        have HN := Lib.hid (HGo.out (HT.out false (by rw [decide_eq_false qs]; simp)))
        clear q5 q0 qs
        go_wp2_with fail
        refine wp_region_grown (by kernel_rfl) (by kernel_rfl) ?_
        repeat (go_big_quiet_step (fail))
        refine wpQuiet_nil ?_
        rintro _ ⟨X, rfl⟩
        go_wp2_with fail
        go_round
        case rel => exact ⟨k + 1, by omega, by go_num, Lib.hid ⟨below_step HB X.below, HN.out⟩⟩
        case measure => simp [intOf]; omega
    · obtain rfl : k = t := by omega
      have hd : decide ((k : Int) < (k : Int)) = false := decide_eq_false (by omega)
      have ho : o = true := by
        rw [HO2.out]
        have : ((P.take k).any fun y => Hld.makes y.2 && decide (y.1 = s)) = false := by
          rw [List.any_eq_false]
          intro y hy
          rw [HX.out.2 y hy]; simp
        rw [this]; rfl
      subst ho
      go_wp2_with fail
      go_ret
      exact ⟨rfl, HX.out.1⟩

end Go.Proofs.Ytfokbcakbbdlaaa
