/- HoldMatchesReference. -/
import Derived.Test.YtfokbcakbbdlaaaHldRefAll
import Derived.Test.YtfokbcakbbdlaaaHldOnFull
namespace Go.Proofs.Ytfokbcakbbdlaaa
open Go.RowKit
open Hld (Rc Hd)

set_option maxRecDepth 100000 in
set_option maxHeartbeats 2000000 in
theorem refAll_none (io ro : Option Addr) (n m ic rc : Nat) (hne : n ≠ m) (W : World) :
    Calls Try.prog 12 #[.slice io n ic, .slice ro m rc] W fun e w' => e = .returned (.slice none 0 0) ∧ Below W.heap.size W w' := by
  have h1 : ((n : Int) == (m : Int)) = false := by
    have : ((n : Int) == (m : Int)) = decide ((n : Int) = (m : Int)) := rfl
    rw [this, decide_eq_false]; omega
  go_enter Try.func12, Try.ntmps12
  go_wp2_with fail
  go_ret
  exact ⟨rfl, Below.refl _ _⟩

set_option maxRecDepth 100000 in
set_option maxHeartbeats 8000000 in
theorem matches_any (ids : List ByteArray) (recs : List Rc) (ve : ByteArray) (io ro : Option Addr) (ic rc : Nat) (hn : recs.length ≤ 9223372036854775807) (hm : ids.length ≤ 9223372036854775807) (W : World) (hi : IsStrs W io ids) (hr : IsRecs W ro recs) :
    Calls Try.prog 3 #[.slice io ids.length ic, .slice ro recs.length rc, .string ve] W fun e w' => e = .returned (.bool true) ∧ Below W.heap.size W w' := by
  have HHead := Lib.hid (head_any W)
  have HFew := Lib.hid (fun W1 h1 h2 => few_any ids recs io ro ic rc hn hm W1 h1 h2)
  have HI := Lib.hid hi
  have HR := Lib.hid hr
  have HAll := Lib.hid (@all_any ids recs io ro ic rc)
  have HRef := Lib.hid (@refAll_any ids recs io ro ic rc)
  clear hi hr
  obtain ⟨n, Hn⟩ : ∃ n, Hid (n = recs.length) := ⟨_, Lib.hid rfl⟩
  obtain ⟨m, Hm⟩ : ∃ n, Hid (n = ids.length) := ⟨_, Lib.hid rfl⟩
  rw [← Hn.out] at hn
  rw [← Hm.out] at hm
  rw [← Hn.out, ← Hm.out] at HFew
  rw [← Hn.out, ← Hm.out]
  go_enter Try.func3, Try.ntmps3
  go_wp2_with fail
  refine HHead.out.mono ?_
  rintro e W1 ⟨rfl, hb1⟩
  have HB1 := Lib.hid hb1
  clear hb1
  go_wp2_with fail
  refine (HFew.out W1 (HI.out.below HB1.out) (HR.out.below HB1.out)).mono ?_
  rintro e w ⟨b, rfl, hf, hw⟩
  subst hw
  cases b with
  | false =>
    go_wp2_with fail
    go_ret
    exact ⟨rfl, HB1.out⟩
  | true =>
  obtain ⟨hn30, hm30, hmem, hsz⟩ := hf rfl
  have HMem := Lib.hid hmem
  have HSz := Lib.hid hsz
  clear hmem hsz hf
  by_cases hv : 100 < ve.size
  · have d1 : decide ((100 : Int) < (ve.size : Int)) = true := decide_eq_true (by omega)
    go_wp2_with fail
    go_ret
    exact ⟨rfl, HB1.out⟩
  have d1 : decide ((100 : Int) < (ve.size : Int)) = false := decide_eq_false (by omega)
  clear hv
  have key : ∃ H : List Hd, H.length ≤ 1000 ∧ (∀ h ∈ H, h.members.length ≤ 100000 ∧ h.back.length ≤ 100000) ∧
      (∀ w, Below W.heap.size W w → Calls Try.prog 11 #[.slice io m ic, .slice ro n rc] w fun e w' => ∃ ao cap, e = .returned (.slice ao H.length cap) ∧ IsHolds w' ao H ∧ Below w.heap.size w w') ∧
      (∀ w, Below W.heap.size W w → Calls Try.prog 12 #[.slice io m ic, .slice ro n rc] w fun e w' => ∃ ao cap, e = .returned (.slice ao H.length cap) ∧ IsHolds w' ao H ∧ Below w.heap.size w w') := by
    by_cases hne : m = n
    · have HNe : ids.length = recs.length := by rw [← Hn.out, ← Hm.out]; exact hne
      have HPl : (ids.zip recs).length = n := by rw [List.length_zip, HNe, Nat.min_self]; exact Hn.out.symm
      have hl := Hld.allF_len (ids.zip recs)
      rw [HPl] at hl
      refine ⟨Hld.allF (ids.zip recs), by omega, fun h hh => ?_, fun w hw => ?_, fun w hw => ?_⟩
      · obtain ⟨⟨y, hy, _, e⟩, e2⟩ := Hld.all_mem hh
        have := HMem.out _ (List.of_mem_zip (show (y.1, y.2) ∈ ids.zip recs from hy)).2
        rw [HPl] at e2
        rw [e]
        omega
      · rw [Hm.out, Hn.out]
        refine (HAll.out (by rw [← Hn.out]; omega) (by rw [← Hm.out]; omega) (fun s hs => by have := HSz.out s hs; omega) (fun r hr => by have := HMem.out r hr; omega) w (HI.out.below hw) (HR.out.below hw) HNe).mono ?_
        rintro e w' ⟨ao, cap, h1, h2, _, h3⟩
        exact ⟨ao, cap, h1, h2, h3⟩
      · rw [Hm.out, Hn.out]
        exact HRef.out (by rw [← Hn.out]; omega) (fun s hs => by have := HSz.out s hs; omega) (fun r hr => by have := HMem.out r hr; omega) HNe w (HI.out.below hw) (HR.out.below hw)
    · refine ⟨[], by simp, by simp, fun w _ => ?_, fun w _ => ?_⟩
      · exact (all_none io ro m n ic rc hne w).mono fun e w' h => ⟨none, 0, h.1, Or.inl rfl, h.2⟩
      · exact (refAll_none io ro m n ic rc hne w).mono fun e w' h => ⟨none, 0, h.1, Or.inl rfl, h.2⟩
  obtain ⟨H, hHl, hHm, hA, hB⟩ := key
  obtain ⟨q, Hq⟩ : ∃ q, Hid (q = H.length) := ⟨_, Lib.hid rfl⟩
  rw [← Hq.out] at hHl hA hB
  have HHm := Lib.hid hHm
  have HA := Lib.hid hA
  have HB := Lib.hid hB
  have hq1000 := hHl
  clear hHl hHm hA hB HI HR HAll HRef HMem HSz
  go_wp2_with fail
  refine (HA.out _ HB1.out).mono ?_
  rintro e w2 ⟨ao, ac, rfl, hh, hb⟩
  have HAs := Lib.hid hh
  have HB2 := Lib.hid (below_step HB1.out hb)
  clear hh hb
  go_wp2_with fail
  refine (HB.out _ HB2.out).mono ?_
  rintro e w3 ⟨bo, bc, rfl, hh, hb⟩
  have HBs := Lib.hid hh
  have HAs3 := Lib.hid (HAs.out.below hb)
  have HB3 := Lib.hid (below_step HB2.out hb)
  clear hh hb
  go_wp2_with fail
  go_loopw [10] (fun i wr => ∃ k : Nat, k ≤ q ∧ i = .int .i64 k ∧ Hid (Below w3.heap.size w3 wr)) (fun i _ => q - (intOf i).toNat)
  case atStart => exact ⟨0, Nat.zero_le _, by go_num, Lib.hid (Below.refl _ _)⟩
  case round =>
    obtain ⟨k, hk, rfl, HZ⟩ := hrel
    by_cases hkq : k < q
    · have hd : decide ((k : Int) < (q : Int)) = true := decide_eq_true (by omega)
      have hb0 : (0 : Int) ≤ k := by omega
      have hb1 : (k : Int) < q := by omega
      have hkH : k < H.length := by rw [← Hq.out]; exact hkq
      obtain ⟨bh, oh, rfl, hbh, a0, a1, mo, mc, bo2, bc2, a2, a3, a4, a5⟩ := (HAs3.out.below HZ.out).at hkH
      have hmm := HHm.out _ (List.getElem_mem hkH)
      have HO1 : Hid (∀ X : Grown wr, Calls Try.prog 13 #[hdV H[k] mo mc bo2 bc2] X.w fun e w' => e = .returned (.bool (Hld.out H[k])) ∧ Below X.w.heap.size X.w w') := Lib.hid (fun X => out_any H[k] mo mc bo2 bc2 (by omega) (by omega) X.w (a4.below X.below) (a5.below X.below))
      have HO2 : Hid (∀ X : Grown wr, Calls Try.prog 14 #[hdV H[k] mo mc bo2 bc2] X.w fun e w' => e = .returned (.bool (Hld.out H[k])) ∧ Below X.w.heap.size X.w w') := Lib.hid (fun X => refOut_any H[k] mo mc bo2 bc2 (by omega) (by omega) X.w (a4.below X.below) (a5.below X.below))
      unfold hdV at HO1 HO2
      obtain ⟨id, Hid'⟩ : ∃ m, Hid (m = H[k].id) := ⟨_, Lib.hid rfl⟩
      obtain ⟨vv, Hvv⟩ : ∃ m, Hid (m = H[k].vehicle) := ⟨_, Lib.hid rfl⟩
      obtain ⟨ml, Hml⟩ : ∃ m, Hid (m = H[k].members.length) := ⟨_, Lib.hid rfl⟩
      obtain ⟨bl, Hbl⟩ : ∃ m, Hid (m = H[k].back.length) := ⟨_, Lib.hid rfl⟩
      obtain ⟨ob, Hob⟩ : ∃ m, Hid (m = Hld.out H[k]) := ⟨_, Lib.hid rfl⟩
      rw [← Hid'.out, ← Hvv.out, ← Hml.out, ← Hbl.out, ← Hob.out] at HO1 HO2
      rw [← Hid'.out] at a0
      rw [← Hvv.out] at a1
      rw [← Hml.out] at a2
      rw [← Hbl.out] at a3
      have gx0 : ∀ X : Grown wr, X.w.cell? ⟨bh, oh + k * 4, none⟩ = some (.string id) := fun X => by rw [X.cell hbh]; exact a0
      have gx1 : ∀ X : Grown wr, X.w.cell? ⟨bh, oh + k * 4 + 1, none⟩ = some (.string vv) := fun X => by rw [X.cell hbh]; exact a1
      have gx2 : ∀ X : Grown wr, X.w.cell? ⟨bh, oh + k * 4 + 2, none⟩ = some (.slice mo ml mc) := fun X => by rw [X.cell hbh]; exact a2
      have gx3 : ∀ X : Grown wr, X.w.cell? ⟨bh, oh + k * 4 + 3, none⟩ = some (.slice bo2 bl bc2) := fun X => by rw [X.cell hbh]; exact a3
      clear a0 a1 a2 a3 a4 a5 hmm
      go_wp2_with fail
      refine wp_region_grown (by kernel_rfl) (by kernel_rfl) ?_
      iterate 5 (go_big_quiet_step (exact grown_of (HO1.out _)))
      repeat (go_big_quiet_step (exact grown_of (HO2.out _)))
      refine wpQuiet_nil ?_
      rintro _ ⟨Y, rfl⟩
      have HN := Lib.hid (below_step HZ.out Y.below)
      cases ob with
      | true =>
        go_wp2_with fail
        go_round
        case rel => exact ⟨k + 1, by omega, by go_num, HN⟩
        case measure => simp [intOf]; omega
      | false =>
        go_wp2_with fail
        go_round
        case rel => exact ⟨k + 1, by omega, by go_num, HN⟩
        case measure => simp [intOf]; omega
    · obtain rfl : k = q := by omega
      have hd : decide ((k : Int) < (k : Int)) = false := decide_eq_false (by omega)
      have HAw := Lib.hid (HAs3.out.below HZ.out)
      have HBw := Lib.hid (HBs.out.below HZ.out)
      have HBB := Lib.hid (below_step HB3.out HZ.out)
      have hH9 : H.length ≤ 100000 := by rw [← Hq.out]; omega
      have HS1 := same_true ao bo ac bc H hH9 HHm.out wr HAw.out HBw.out
      rw [← Hq.out] at HS1
      have HO1 := Lib.hid (fun w (hw : Below wr.heap.size wr w) => onFull_any ao ac H ve hH9 HHm.out w (HAw.out.below hw))
      have HO2 := Lib.hid (fun w (hw : Below wr.heap.size wr w) => refOn_any bo bc H ve hH9 HHm.out w (HBw.out.below hw))
      obtain ⟨Fl, HFl⟩ : ∃ l, Hid (l = H.filter (onB ve)) := ⟨_, Lib.hid rfl⟩
      obtain ⟨f, Hf⟩ : ∃ l, Hid (l = Fl.length) := ⟨_, Lib.hid rfl⟩
      have HFm : Hid (f ≤ 100000 ∧ ∀ h ∈ Fl, h.members.length ≤ 100000 ∧ h.back.length ≤ 100000) := Lib.hid (by
        have h1 := List.length_filter_le (onB ve) H
        rw [Hf.out, HFl.out]
        exact ⟨by omega, fun h hh => HHm.out h (List.mem_filter.1 hh).1⟩)
      rw [← HFl.out, ← Hf.out, ← Hq.out] at HO1 HO2
      go_wp2_with fail
      refine HS1.mono ?_
      rintro e w4 ⟨rfl, hb⟩
      have HC4 := Lib.hid hb
      clear hb
      go_wp2_with fail
      refine (HO1.out _ HC4.out).mono ?_
      rintro e w5 ⟨co, cc, rfl, hh, hb⟩
      have HC5 := Lib.hid (below_step HC4.out hb)
      have HH5 := Lib.hid hh
      clear hb hh
      go_wp2_with fail
      refine (HO2.out _ HC5.out).mono ?_
      rintro e w6 ⟨do', dc, rfl, hh, hb⟩
      have HC6 := Lib.hid (below_step HC5.out hb)
      have HH6 := Lib.hid hh
      have HH56 := Lib.hid (HH5.out.below hb)
      clear hb hh
      have HS2 := same_true co do' cc dc Fl (by rw [← Hf.out]; exact HFm.out.1) HFm.out.2 w6 HH56.out HH6.out
      rw [← Hf.out] at HS2
      go_wp2_with fail
      refine HS2.mono ?_
      rintro e w7 ⟨rfl, hb⟩
      have HC7 := Lib.hid (below_step HC6.out hb)
      clear hb
      go_wp2_with fail
      go_ret
      exact ⟨rfl, below_step HBB.out HC7.out⟩

theorem matches_row (ids : List ByteArray) (io : Option Addr) (ic : Nat) (hm : ids.length ≤ 9223372036854775807) (_ : (io = none ∧ ic = 0) ∨ ∃ ad, io = some ad) (recs : List Rc) (ro : Option Addr) (rc : Nat) (hn : recs.length ≤ 9223372036854775807) (_ : (ro = none ∧ rc = 0) ∨ ∃ ad, ro = some ad) (ve : ByteArray) (W : World) (hi : IsStrs W io ids) (hr : IsRecs W ro recs) :
    Calls Try.prog 3 #[.slice io ids.length ic, .slice ro recs.length rc, .string ve] W fun e w' => e = .returned (.bool true) ∧ Below W.heap.size W w' := matches_any ids recs ve io ro ic rc hn hm W hi hr

end Go.Proofs.Ytfokbcakbbdlaaa
