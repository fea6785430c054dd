/- The statement on working until nothing is ready: its walk. -/
import Derived.Test.YtejgbfaampllaaaTskHead
import Derived.Test.YtejgbfaampllaaaTskFew
import Derived.Test.YtejgbfaampllaaaTskNeeds
import Derived.Test.YtejgbfaampllaaaTskWorksMath
import Derived.Test.YtejgbfaampllaaaTskU8s
namespace Go.Proofs.Ytejgbfaampllaaa
open Go.RowKit

theorem ints_rows {W : World} {ao : Option Addr} {zs : List Nat} (h : IsInts W ao (Tsk.ints zs)) (h0 : 0 < zs.length) : ∃ bk off, ao = some ⟨bk, off, none⟩ ∧ bk < W.heap.size ∧ ∀ k, (hk : k < zs.length) → W.cell? ⟨bk, off + k, none⟩ = some (.int .i64 (zs[k] : Nat)) := by
  rcases h with h | ⟨bk, off, h1, h2, h3⟩
  · cases zs with
    | nil => simp at h0
    | cons a t => cases h
  · exact ⟨bk, off, h1, h2, fun k hk => by rw [h3 k (by simpa [Tsk.ints] using hk)]; simp [Tsk.ints]⟩

set_option maxRecDepth 100000 in
set_option maxHeartbeats 8000000 in
theorem works37_any (l : List Tk) (hn : l.length ≤ 9223372036854775807) (hf : ∀ t ∈ l, tkFine t) (ao : Option Addr) (cap : Nat) (raw : List Int) (hrn : raw.length ≤ 9223372036854775807) (hrf : ∀ z ∈ raw, 0 ≤ z ∧ z ≤ 255) (bo : Option Addr) (capb : Nat) (W : World) (hl : IsTasks W ao l) (hb : IsU8s W bo raw) :
    Calls Try.prog 5 #[.slice ao l.length cap, .slice bo raw.length capb] W fun e w' => e = .returned (.bool true) ∧ Below W.heap.size W w' := by
  have HH := Lib.hid (head37_any W)
  have HF := Lib.hid fun w' (h : IsTasks w' ao l) => few_any l hf hn ao cap w' h
  have HV := Lib.hid fun w' (h : IsTasks w' ao l) => rvalid_any l hf hn ao cap w' h
  have HR := Lib.hid fun (bs : List Bool) (hdn : bs.length ≤ 9223372036854775807) p c w' (h : IsTasks w' ao l) (hd : IsBools w' p bs) => ready_any l hf hn bs hdn ao p cap c w' h hd
  obtain ⟨n, Hn⟩ : ∃ n, Hid (n = l.length) := ⟨_, Lib.hid rfl⟩
  obtain ⟨m, Hm⟩ : ∃ n, Hid (n = raw.length) := ⟨_, Lib.hid rfl⟩
  have HN := Lib.hid fun (hv : Tsk.validB l = true) w' (h : IsTasks w' ao l) => needs_any l hv n Hn.out ao cap w' h
  have HL := Lib.hid hl
  have HD := Lib.hid hb
  have HRf := Lib.hid hrf
  obtain ⟨vb, Hvb⟩ : ∃ n, Hid (n = Tsk.validB l) := ⟨_, Lib.hid rfl⟩
  obtain ⟨fb, Hfb⟩ : ∃ n, Hid (n = Tsk.fewB l) := ⟨_, Lib.hid rfl⟩
  unfold ReadyPost at HR
  rw [← Hn.out, ← Hfb.out] at HF
  rw [← Hn.out, ← Hvb.out] at HV
  rw [← Hn.out] at HR
  rw [← Hn.out, ← Hm.out]
  obtain ⟨i1, hi1, hy0, hy1, hy2⟩ := info_parts info_bool
  clear hl hb hf hn hrn hrf
  go_enter Try.func5, Try.ntmps5
  go_wp2_with fail
  refine HH.out.mono ?_
  rintro e w1 ⟨rfl, hb⟩
  have HB1 := Lib.hid hb
  clear hb
  cases fb
  · go_wp2_with fail
    refine (HF.out _ (HL.out.below HB1.out)).mono ?_
    rintro e _ ⟨rfl, rfl⟩
    go_wp2
    go_ret
    exact ⟨rfl, HB1.out⟩
  · go_wp2_with fail
    refine (HF.out _ (HL.out.below HB1.out)).mono ?_
    rintro e _ ⟨rfl, rfl⟩
    go_wp2_with fail
    refine (HV.out _ (HL.out.below HB1.out)).mono ?_
    rintro e w2 ⟨rfl, hb⟩
    have HB2 := Lib.hid (below_step HB1.out hb)
    clear hb
    by_cases hbad : vb = false ∨ vb = true ∧ (60 : Int) < m
    · rcases hbad with rfl | ⟨rfl, h60⟩
      all_goals
        go_wp2
        go_ret
        exact ⟨rfl, HB2.out⟩
    · obtain rfl : vb = true := by cases vb with | true => rfl | false => exact absurd (Or.inl rfl) hbad
      have h60 : ¬ (60 : Int) < m := fun h => hbad (Or.inr ⟨rfl, h⟩)
      have hvb : Tsk.validB l = true := Hvb.out.symm
      have h40 : (n : Int) ≤ 40 := by have := (Tsk.validB_iff.1 hvb).1; have := Hn.out; omega
      have HN2 := Lib.hid (HN.out hvb)
      have HVB := Lib.hid hvb
      clear HN hvb hbad
      go_wp2_with (at_make; refine wpList_make_full _ rfl _ _ 23 rfl w2.heap.size 4 i1 (.bool false) 1 Try.underlying23 hi1 hy0 hy1 .i64 .i64 _ _ n rfl rfl rfl rfl (by rw [hy2]; omega) (by unfold maxLen; omega) (Nat.le_refl _) ?_; intro w5 hown hgr; have HO5 := Lib.hid hown; have HG5 := Lib.hid hgr; clear hown hgr)
      obtain ⟨gd, Hgd⟩ : ∃ x, Hid (x = w2.heap.size) := ⟨_, Lib.hid rfl⟩
      have HD5 : Hid (∃ D, D.length = 0 ∧ Tsk.WorkP l D ∧ Below w2.heap.size w2 w5 ∧ Whole w5 gd 4 (boolsC (Tsk.doneOf n D))) := Lib.hid (by
        refine ⟨[], rfl, Tsk.WorkP.nil l, ⟨HG5.out.os, HG5.out.tape, HG5.out.output, HG5.out.size, fun k hk => HG5.out.block k hk (by simp)⟩, ?_⟩
        have ho := HO5.out
        have e1 : (madeCells (Value.bool false).cells (n * 1)).toList = List.replicate n (.bool false) := by rw [Nat.mul_one]; exact toList_madeCells_one _ _
        rw [e1] at ho
        have hw := whole_of_full ho (by simp)
        have e2 : (List.replicate n (Value.bool false)).toArray = boolsC (Tsk.doneOf n []) := by rw [Tsk.doneOf_nil]; simp [boolsC]
        rwa [e2, ← Hgd.out] at hw)
      rw [← Hgd.out]
      go_loopw [7] (fun a wr => ∃ k : Nat, k ≤ n + 1 ∧ a = .int .i64 k ∧ Hid (∃ D, D.length = k ∧ Tsk.WorkP l D ∧ Below w2.heap.size w2 wr ∧ Whole wr gd 4 (boolsC (Tsk.doneOf n D)))) (fun a _ => n + 1 - (intOf a).toNat)
      case atStart => exact ⟨0, by omega, rfl, HD5⟩
      case round =>
        obtain ⟨k, hk, rfl, HK⟩ := hrel
        obtain ⟨D, hDk, hW, hbw, hgd⟩ := HK.out
        have hkn : k ≤ n := by have := hW.len; have := Hn.out; omega
        have hkn' : (k : Int) ≤ n := by omega
        have HDk := Lib.hid hDk
        have HWk := Lib.hid hW
        have HBw := Lib.hid hbw
        have HGd := Lib.hid hgd
        have HRX := Lib.hid fun w' (h : IsTasks w' ao l) (hd : IsBools w' (some ⟨gd, 0, none⟩) (Tsk.doneOf n D)) => HR.out (Tsk.doneOf n D) (by rw [Tsk.doneOf_len]; omega) (some ⟨gd, 0, none⟩) n w' h hd
        rw [Tsk.doneOf_len] at HRX
        obtain ⟨rv, Hrv⟩ : ∃ x, Hid (x = Tsk.readyV l (Tsk.doneOf n D)) := ⟨_, Lib.hid rfl⟩
        rw [← Hrv.out] at HRX
        obtain ⟨rl, Hrl⟩ : ∃ x, Hid (x = rv.length) := ⟨_, Lib.hid rfl⟩
        rw [← Hrl.out] at HRX
        have hrl40 : (rl : Int) ≤ 40 := by
          have h1 : rv.length ≤ l.length := by
            rw [Hrv.out]
            unfold Tsk.readyV
            split
            · exact Tsk.readyUp_len _ _ _
            · simp
          have := Hrl.out
          have := Hn.out
          omega
        clear hDk hW hbw hgd HK
        go_wp2_with fail
        refine (HRX.out _ (HL.out.below (below_step HB2.out HBw.out)) (isBools_whole _ HGd.out)).mono ?_
        rintro e w6 ⟨o6, k6, rfl, hb, hi⟩
        have HB6 := Lib.hid (below_step HBw.out hb)
        have HG6 : Hid (Whole w6 gd 4 (boolsC (Tsk.doneOf n D))) := Lib.hid ((hb.block gd HGd.out.lt).trans HGd.out)
        have HRv := Lib.hid hi
        clear hb hi
        by_cases hr0 : rl = 0
        · subst hr0
          have HEnd : Hid (∀ i, i < n → (i ∈ D ↔ ¬ Tsk.Stuck l i)) := Lib.hid fun i hi => HWk.out.ends HVB.out (by
            rw [← Hn.out, ← Hrv.out]
            exact List.length_eq_zero_iff.1 Hrl.out.symm) (by rw [← Hn.out]; exact hi)
          go_wp2_with fail
          refine (HN2.out _ (HL.out.below (below_step HB2.out HB6.out))).mono ?_
          rintro e w7 ⟨g, h, R, rfl, hb, hN⟩
          have HB7 := Lib.hid (below_step HB6.out hb)
          have HG7 : Hid (Whole w7 gd 4 (boolsC (Tsk.doneOf n D))) := Lib.hid ((hb.block gd HG6.out.lt).trans HG6.out)
          have HNe := Lib.hid hN
          clear hb hN
          go_wp2
          go_loop [12] (fun a => ∃ i : Nat, i ≤ n ∧ a = .int .i64 i) (fun a => n - (intOf a).toNat)
          case atStart => exact ⟨0, by omega, rfl⟩
          case round =>
            obtain ⟨i, hi, rfl⟩ := hrel
            by_cases hlt : i < n
            · have hlt' : (i : Int) < n := by omega
              have z1 := HNe.out.out i hlt
              have z2 := HNe.out.val i i hlt hlt
              obtain ⟨ri, Hri⟩ : ∃ x, Hid (x = R i i) := ⟨_, Lib.hid rfl⟩
              rw [← Hri.out] at z2
              go_wp2
              clear z2
              go_loop [13, 14] (fun c a => ∃ q : Nat, q ≤ n ∧ a = .int .i64 q ∧ ∃ b : Bool, c = .bool b ∧ Hid (b = true ↔ Tsk.Path l i i ∨ ∃ p, p < q ∧ Tsk.Path l i p ∧ Tsk.Path l p p)) (fun _ a => n - (intOf a).toNat)
              case atStart => exact ⟨0, by omega, rfl, _, rfl, Lib.hid (by
                rw [Hri.out, HNe.out.path i i hlt hlt]
                exact ⟨Or.inl, fun h => h.elim id fun ⟨p, hp, _⟩ => by omega⟩)⟩
              case round =>
                obtain ⟨q, hq, rfl, b, rfl, HC⟩ := hrel
                by_cases hltq : q < n
                · have hltq' : (q : Int) < n := by omega
                  cases b
                  · have z3 := HNe.out.val i q hlt hltq
                    have z4 := HNe.out.out q hltq
                    have z5 := HNe.out.val q q hltq hltq
                    obtain ⟨x1, Hx1⟩ : ∃ x, Hid (x = R i q) := ⟨_, Lib.hid rfl⟩
                    obtain ⟨x2, Hx2⟩ : ∃ x, Hid (x = R q q) := ⟨_, Lib.hid rfl⟩
                    have HNx : Hid (∀ b' : Bool, b' = (x1 && x2) → (b' = true ↔ Tsk.Path l i i ∨ ∃ p, p < q + 1 ∧ Tsk.Path l i p ∧ Tsk.Path l p p)) := Lib.hid fun b' hb' => by
                      rw [hb', Bool.and_eq_true, Hx1.out, Hx2.out, HNe.out.path i q hlt hltq, HNe.out.path q q hltq hltq]
                      constructor
                      · rintro ⟨h1, h2⟩
                        exact Or.inr ⟨q, by omega, h1, h2⟩
                      · rintro (h1 | ⟨p, h1, h2, h3⟩)
                        · exact absurd (HC.out.2 (Or.inl h1)) (by simp)
                        · by_cases e : p = q
                          · subst e; exact ⟨h2, h3⟩
                          · exact absurd (HC.out.2 (Or.inr ⟨p, by omega, h2, h3⟩)) (by simp)
                    rw [← Hx1.out] at z3
                    rw [← Hx2.out] at z5
                    cases x1
                    · go_wp2
                      go_round
                      case rel => exact ⟨q + 1, by omega, by go_num, _, rfl, Lib.hid (HNx.out _ rfl)⟩
                      case measure => simp [intOf]; omega
                    · go_wp2
                      go_round
                      case rel => exact ⟨q + 1, by omega, by go_num, _, rfl, Lib.hid (HNx.out _ rfl)⟩
                      case measure => simp [intOf]; omega
                  · go_wp2
                    go_round
                    case rel => exact ⟨q + 1, by omega, by go_num, true, rfl, Lib.hid (by
                      refine ⟨fun _ => ?_, fun _ => rfl⟩
                      rcases HC.out.1 rfl with h1 | ⟨p, h1, h2⟩
                      · exact Or.inl h1
                      · exact Or.inr ⟨p, by omega, h2⟩)⟩
                    case measure => simp [intOf]; omega
                · have HSt : Hid (b = true ↔ Tsk.Stuck l i) := Lib.hid (by
                    rw [HC.out, Tsk.stuck_iff]
                    constructor
                    · rintro (h1 | ⟨p, _, h1, h2⟩)
                      · exact Or.inl h1
                      · exact Or.inr ⟨p, h1, h2⟩
                    · rintro (h1 | ⟨p, h1, h2⟩)
                      · exact Or.inl h1
                      · exact Or.inr ⟨p, by have := h1.lt HVB.out; have := Hn.out; omega, h1, h2⟩)
                  have y1 : w7.cell? ⟨gd, i, none⟩ = some (.bool (!b)) := by
                    rw [HG7.out.cell i, boolsC_get (by rw [Tsk.doneOf_len]; exact hlt), Tsk.dn_doneOf hlt]
                    congr 2
                    rw [Bool.eq_iff_iff, decide_eq_true_eq, HEnd.out i hlt, ← HSt.out]
                    cases b <;> simp
                  obtain rfl : n = q := by omega
                  cases b
                  all_goals
                    simp only [Bool.not_true, Bool.not_false] at y1
                    go_wp2
                    go_round
                    case rel => exact ⟨i + 1, by omega, by go_num⟩
                    case measure => simp [intOf]; omega
            · obtain rfl : n = i := by omega
              go_wp2
              go_ret
              exact ⟨rfl, below_step HB2.out HB7.out⟩
        · have hr1 : ((rl : Int) == 0) = false := by simp; omega
          obtain ⟨br, or', rfl, hbr, hcr⟩ := ints_rows HRv.out (by have := Hrl.out; omega)
          have HCr := Lib.hid hcr
          clear hcr hbr
          have HPick : Hid (∀ q, (hq : q < rv.length) → rv[q] < n ∧ Tsk.readyB l D rv[q] = true) := Lib.hid fun q hq => by
            have h1 := Tsk.readyV_mem (x := rv[q]) HVB.out (D := D) (by rw [← Hn.out, ← Hrv.out]; exact List.getElem_mem _)
            rw [← Hn.out] at h1
            exact h1
          have HStep : Hid (∀ q, (hq : q < rv.length) → ∃ x : Nat, w6.cell? ⟨br, or' + q, none⟩ = some (.int .i64 (x : Int)) ∧ x < n ∧ w6.cell? ⟨gd, x, none⟩ = some (.bool false) ∧ w6.frozen? ⟨gd, x, none⟩ = false ∧ ∃ D', D'.length = k + 1 ∧ Tsk.WorkP l D' ∧ Below w2.heap.size w2 (w6.setCell ⟨gd, x, none⟩ (.bool true)) ∧ Whole (w6.setCell ⟨gd, x, none⟩ (.bool true)) gd 4 (boolsC (Tsk.doneOf n D'))) := Lib.hid fun q hq => by
            obtain ⟨h1, h2⟩ := HPick.out q hq
            refine ⟨rv[q], HCr.out q hq, h1, ?_, HG6.out.frozen _, D ++ [rv[q]], by rw [List.length_append, HDk.out]; rfl, HWk.out.step (by rw [← Hn.out]; exact h1) h2, Below.setCell HB6.out (p := ⟨gd, rv[q], none⟩) (by show _ ≤ gd; rw [Hgd.out]; exact Nat.le_refl _) _, ?_⟩
            · rw [HG6.out.cell, boolsC_get (by rw [Tsk.doneOf_len]; exact h1), Tsk.dn_doneOf h1, decide_eq_false (Tsk.readyB_iff.1 h2).1]
            · have h3 := HG6.out.set rv[q] (.bool true)
              rw [boolsC_set, Tsk.doneOf_set] at h3
              exact h3
          by_cases hkm : k < m
          · have hkm' : (k : Int) < m := by omega
            have hkr : k < raw.length := by rw [← Hm.out]; exact hkm
            obtain ⟨bu, ou, rfl, hbu, hcu⟩ := (HD.out.below (below_step HB2.out HB6.out)).at hkr
            have hzb := HRf.out _ (List.getElem_mem hkr)
            obtain ⟨z, Hz⟩ : ∃ z : Nat, Hid (raw[k] = (z : Int)) := ⟨raw[k].toNat, Lib.hid (by omega)⟩
            rw [Hz.out] at hcu hzb
            obtain ⟨q, hq⟩ : ∃ q : Nat, (z : Int) % (rl : Int) = (q : Int) := ⟨z % rl, by rw [Int.natCast_emod]⟩
            have hql : q < rl := by
              have h1 := Int.emod_lt_of_pos (z : Int) (by omega : (0 : Int) < rl)
              omega
            have hql' : (q : Int) < rl := by omega
            obtain ⟨x, x1, hxn, x2, x3, hD'⟩ := HStep.out q (by have := Hrl.out; omega)
            have HD2 := Lib.hid hD'
            have hxn' : (x : Int) < n := by omega
            have hx0 : ¬ (x : Int) < 0 := by omega
            have hx4 : decide (n ≤ x) = false := decide_eq_false (by omega)
            clear hbu hD'
            go_wp2
            go_roundw
            case rel => exact ⟨k + 1, by omega, by go_num, Lib.hid (by
              obtain ⟨D', h1, h2, h3, h4⟩ := HD2.out
              exact ⟨D', h1, h2, h3, h4⟩)⟩
            case measure => simp [intOf]; omega
          · obtain ⟨x, x1, hxn, x2, x3, hD'⟩ := HStep.out 0 (by have := Hrl.out; omega)
            have HD2 := Lib.hid hD'
            have hxn' : (x : Int) < n := by omega
            have hx0 : ¬ (x : Int) < 0 := by omega
            have hx4 : decide (n ≤ x) = false := decide_eq_false (by omega)
            have hrl0 : (0 : Int) < rl := by omega
            rw [Nat.add_zero] at x1
            clear hD'
            go_wp2
            go_roundw
            case rel => exact ⟨k + 1, by omega, by go_num, Lib.hid (by
              obtain ⟨D', h1, h2, h3, h4⟩ := HD2.out
              exact ⟨D', h1, h2, h3, h4⟩)⟩
            case measure => simp [intOf]; omega

end Go.Proofs.Ytejgbfaampllaaa
