/- The statement on orders: its walk. -/
import Derived.Test.YtejgbfaampllaaaTskHead
import Derived.Test.YtejgbfaampllaaaTskFew
import Derived.Test.YtejgbfaampllaaaTskNeeds
namespace Go.Proofs.Ytejgbfaampllaaa
open Go.RowKit

namespace Tsk
/-- Each task is the least one that is ready. -/
def Lst (l : List Tk) (ord : List Nat) : Prop := ∀ pre i suf, ord = pre ++ i :: suf → nextT l pre = some i
theorem Lst.nil (l : List Tk) : Lst l [] := by
  intro pre i suf h
  cases pre <;> cases h
theorem Lst.snoc {l : List Tk} {ord : List Nat} (h : Lst l ord) {i : Nat} (hi : nextT l ord = some i) : Lst l (ord ++ [i]) := by
  intro pre j suf he
  rcases List.eq_nil_or_concat suf with rfl | ⟨suf', x, rfl⟩
  · have h2 := List.append_inj' he (by simp)
    obtain ⟨rfl, h3⟩ := h2
    simp only [List.cons.injEq, and_true] at h3
    subst h3
    exact hi
  · have h2 : ord ++ [i] = (pre ++ j :: suf') ++ [x] := by rw [he]; simp
    have h3 := List.append_inj' h2 rfl
    exact h pre j suf' h3.1
theorem grow_lst {l : List Tk} : ∀ f ord, Lst l ord → Lst l (grow l f ord)
  | 0, _, h => h
  | f + 1, ord, h => by
    show Lst l (match nextT l ord with | some i => grow l f (ord ++ [i]) | none => ord)
    cases hn : nextT l ord with
    | none => exact h
    | some i => exact grow_lst f _ (h.snoc hn)
theorem order_lst {l : List Tk} {k : Nat} (h : k < (orderL l).length) : nextT l ((orderL l).take k) = some (orderL l)[k] := by
  refine grow_lst l.length [] (Lst.nil l) _ _ ((orderL l).drop (k + 1)) ?_
  show orderL l = _
  rw [List.getElem_cons_drop, List.take_append_drop]
theorem order_direct {l : List Tk} {k : Nat} (hk : k + 1 < (orderL l).length) : (orderL l)[k] < (orderL l)[k + 1] ∨ (orderL l)[k] ∈ needsAt l (orderL l)[k + 1] := by
  by_cases hlt : (orderL l)[k] < (orderL l)[k + 1]
  · exact Or.inl hlt
  · right
    have h1 := readyB_iff.1 (order_at hk)
    have h2 := nextT_spec (order_lst (by omega : k < (orderL l).length))
    have ht : (orderL l).take (k + 1) = (orderL l).take k ++ [(orderL l)[k]] := List.take_succ_eq_append_getElem (by omega)
    rw [ht] at h1
    have hne : (orderL l)[k + 1] ≠ (orderL l)[k] := fun e => h1.1 (by rw [e]; exact List.mem_append_right _ (List.mem_singleton.2 rfl))
    have h3 := h2.2.2 (orderL l)[k + 1] (by omega)
    obtain ⟨j, hj, hj2⟩ := not_ready h3 (fun hm => h1.1 (List.mem_append_left _ hm))
    rcases List.mem_append.1 (h1.2 j hj) with h4 | h4
    · exact absurd h4 hj2
    · rw [List.mem_singleton] at h4
      rw [← h4]
      exact hj
theorem orderE_cyc {l : List Tk} (hv : validB l = true) (h : ∃ i, i < l.length ∧ Path l i i) : orderE l = 24 ∧ orderV l = [] := by
  have h1 := (cyc_iff hv).2 h
  refine ⟨by unfold orderE; rw [if_pos hv, if_pos h1], by unfold orderV; rw [decide_eq_false (by omega)]; simp⟩
theorem orderE_acyc {l : List Tk} (hv : validB l = true) (h : ¬ ∃ i, i < l.length ∧ Path l i i) : orderE l = 0 ∧ orderV l = orderL l ∧ (orderL l).length = l.length := by
  have h1 : ¬ (orderL l).length < l.length := fun hh => h ((cyc_iff hv).1 hh)
  have h2 := (order_good l).len
  refine ⟨by unfold orderE; rw [if_pos hv, if_neg h1], by unfold orderV; rw [decide_eq_true (by omega), hv]; rfl, by omega⟩
end Tsk
theorem ints_cells {W : World} {ao : Option Addr} {zs : List Nat} (h : IsInts W ao (Tsk.ints zs)) (h0 : 0 < zs.length) : ∃ bk off, ao = some ⟨bk, off, none⟩ ∧ bk < W.heap.size ∧ ∀ k, (hk : k < zs.length) → W.cell? ⟨bk, off + k, none⟩ = some (.int .i64 (zs[k] : Nat)) := by
  rcases h with h | ⟨bk, off, h1, h2, h3⟩
  · cases zs with
    | nil => simp at h0
    | cons a t => cases h
  · exact ⟨bk, off, h1, h2, fun k hk => by rw [h3 k (by simpa [Tsk.ints] using hk)]; simp [Tsk.ints]⟩

set_option maxRecDepth 100000 in
set_option maxHeartbeats 8000000 in
theorem orders37_any (l : List Tk) (hn : l.length ≤ 9223372036854775807) (hf : ∀ t ∈ l, tkFine t) (ao : Option Addr) (cap : Nat) (W : World) (hl : IsTasks W ao l) :
    Calls Try.prog 4 #[.slice ao l.length cap] W fun e w' => e = .returned (.bool true) ∧ Below W.heap.size W w' := by
  have HH := Lib.hid (head37_any W)
  have HF := Lib.hid fun w' (h : IsTasks w' ao l) => few_any l hf hn ao cap w' h
  have HV := Lib.hid fun w' (h : IsTasks w' ao l) => rvalid_any l hf hn ao cap w' h
  have HO := Lib.hid fun w' (h : IsTasks w' ao l) => order_any l hf hn ao cap w' h
  obtain ⟨n, Hn⟩ : ∃ n, Hid (n = l.length) := ⟨_, Lib.hid rfl⟩
  have HN := Lib.hid fun (hv : Tsk.validB l = true) w' (h : IsTasks w' ao l) => needs_any l hv n Hn.out ao cap w' h
  have HNA := Lib.hid fun (hv : Tsk.validB l = true) (W' : World) (h : IsTasks W' ao l) k (hk : k < n) => needs_at hv Hn.out h hk
  have HL := Lib.hid hl
  obtain ⟨vb, Hvb⟩ : ∃ n, Hid (n = Tsk.validB l) := ⟨_, Lib.hid rfl⟩
  obtain ⟨fb, Hfb⟩ : ∃ n, Hid (n = Tsk.fewB l) := ⟨_, Lib.hid rfl⟩
  unfold OrderPost at HO
  rw [← Hn.out, ← Hfb.out] at HF
  rw [← Hn.out, ← Hvb.out] at HV
  rw [← Hn.out] at HO ⊢
  obtain ⟨i1, hi1, hy0, hy1, hy2⟩ := info_parts info_bool
  clear hl hf hn
  go_enter Try.func4, Try.ntmps4
  go_wp2_with fail
  refine HH.out.mono ?_
  rintro e w1 ⟨rfl, hb⟩
  have HB1 := Lib.hid hb
  clear hb
  cases fb
  · go_wp2_with fail
    refine (HF.out _ (HL.out.below HB1.out)).mono ?_
    rintro e _ ⟨rfl, rfl⟩
    go_wp2
    go_ret
    exact ⟨rfl, HB1.out⟩
  · go_wp2_with fail
    refine (HF.out _ (HL.out.below HB1.out)).mono ?_
    rintro e _ ⟨rfl, rfl⟩
    cases vb
    · go_wp2_with fail
      refine (HV.out _ (HL.out.below HB1.out)).mono ?_
      rintro e w2 ⟨rfl, hb⟩
      have HB2 := Lib.hid (below_step HB1.out hb)
      clear hb
      go_wp2
      go_ret
      exact ⟨rfl, HB2.out⟩
    · have hvb : Tsk.validB l = true := Hvb.out.symm
      have h40 : (n : Int) ≤ 40 := by have := (Tsk.validB_iff.1 hvb).1; have := Hn.out; omega
      have HN2 := Lib.hid (HN.out hvb)
      have HNA2 := Lib.hid (HNA.out hvb)
      have HVl := Lib.hid hvb
      clear HN HNA hvb
      go_wp2_with fail
      refine (HV.out _ (HL.out.below HB1.out)).mono ?_
      rintro e w2 ⟨rfl, hb⟩
      have HB2 := Lib.hid (below_step HB1.out hb)
      clear hb
      go_wp2_with fail
      refine (HN2.out _ (HL.out.below HB2.out)).mono ?_
      rintro e w3 ⟨g, h, R, rfl, hb, hN⟩
      have HB3 := Lib.hid (below_step HB2.out hb)
      have HNe := Lib.hid hN
      clear hb hN
      go_wp2
      go_loop [5, 6] (fun c i => ∃ k : Nat, k ≤ n ∧ i = .int .i64 k ∧ ∃ b : Bool, c = .bool b ∧ Hid (b = true ↔ ∃ p, p < k ∧ Tsk.Path l p p)) (fun _ i => n - (intOf i).toNat)
      case atStart => exact ⟨0, by omega, rfl, false, rfl, Lib.hid ⟨fun h => (by cases h), fun ⟨p, hp, _⟩ => (by omega)⟩⟩
      case round =>
        obtain ⟨k, hk, rfl, b, rfl, HC⟩ := hrel
        by_cases hlt : k < n
        · have hlt' : (k : Int) < n := by omega
          cases b
          · have z1 := HNe.out.out k hlt
            have z2 := HNe.out.val k k hlt hlt
            obtain ⟨x, Hx⟩ : ∃ x, Hid (x = R k k) := ⟨_, Lib.hid rfl⟩
            rw [← Hx.out] at z2
            go_wp2
            go_round
            case rel => exact ⟨k + 1, by omega, by go_num, x, rfl, Lib.hid (by
              rw [Hx.out, HNe.out.path k k hlt hlt]
              constructor
              · intro hp; exact ⟨k, by omega, hp⟩
              · rintro ⟨p, hp, hpp⟩
                by_cases e : p = k
                · subst e; exact hpp
                · exact absurd (HC.out.2 ⟨p, by omega, hpp⟩) (by simp))⟩
            case measure => simp [intOf]; omega
          · go_wp2
            go_round
            case rel => exact ⟨k + 1, by omega, by go_num, true, rfl, Lib.hid (by
              refine ⟨fun _ => ?_, fun _ => rfl⟩
              obtain ⟨p, hp, hpp⟩ := HC.out.1 rfl
              exact ⟨p, by omega, hpp⟩)⟩
            case measure => simp [intOf]; omega
        · have HC2 : Hid (b = true ↔ ∃ p, p < l.length ∧ Tsk.Path l p p) := Lib.hid (by
            obtain rfl : k = n := by omega
            rw [← Hn.out]; exact HC.out)
          obtain rfl : n = k := by omega
          clear HC
          cases b
          · have HOV := Lib.hid (Tsk.orderE_acyc HVl.out (fun h => by have := HC2.out.2 h; cases this))
            obtain ⟨ord, HOrd⟩ : ∃ x, Hid (x = Tsk.orderL l) := ⟨_, Lib.hid rfl⟩
            have HOl : Hid (ord.length = n) := Lib.hid (by rw [HOrd.out, HOV.out.2.2, Hn.out])
            rw [HOV.out.1, HOV.out.2.1, ← HOrd.out, HOl.out] at HO
            go_wp2_with fail
            refine (HO.out _ (HL.out.below HB3.out)).mono ?_
            rintro e w4 ⟨o1, k1, rfl, hb, hi⟩
            have HB4 := Lib.hid (below_step HB3.out hb)
            have HNe4 := Lib.hid (HNe.out.below hb)
            have HI4 := Lib.hid hi
            clear hb hi HNe
            have hnn : ((n : Int) != n) = false := by simp
            go_wp2_with (at_make; refine wpList_make_full _ rfl _ _ 23 rfl w4.heap.size 4 i1 (.bool false) 1 Try.underlying23 hi1 hy0 hy1 .i64 .i64 _ _ n rfl rfl rfl rfl (by rw [hy2]; omega) (by unfold maxLen; omega) (Nat.le_refl _) ?_; intro w5 hown hgr; have HO5 := Lib.hid hown; have HG5 := Lib.hid hgr; clear hown hgr)
            obtain ⟨gd, Hgd⟩ : ∃ x, Hid (x = w4.heap.size) := ⟨_, Lib.hid rfl⟩
            have HD5 : Hid (Below w4.heap.size w4 w5 ∧ Whole w5 gd 4 (boolsC (Tsk.doneOf n (ord.take 0)))) := Lib.hid (by
              refine ⟨⟨HG5.out.os, HG5.out.tape, HG5.out.output, HG5.out.size, fun k hk => HG5.out.block k hk (by simp)⟩, ?_⟩
              have ho := HO5.out
              have e1 : (madeCells (Value.bool false).cells (n * 1)).toList = List.replicate n (.bool false) := by rw [Nat.mul_one]; exact toList_madeCells_one _ _
              rw [e1] at ho
              have hw := whole_of_full ho (by simp)
              have e2 : (List.replicate n (Value.bool false)).toArray = boolsC (Tsk.doneOf n (ord.take 0)) := by rw [List.take_zero, Tsk.doneOf_nil]; simp [boolsC]
              rwa [e2, ← Hgd.out] at hw)
            rw [← Hgd.out]
            go_loopw [10] (fun i wr => ∃ k : Nat, k ≤ n ∧ i = .int .i64 k ∧ Hid (Below w4.heap.size w4 wr ∧ Whole wr gd 4 (boolsC (Tsk.doneOf n (ord.take k))))) (fun i _ => n - (intOf i).toNat)
            case atStart => exact ⟨0, by omega, rfl, HD5⟩
            case round =>
              obtain ⟨k, hk, rfl, HK⟩ := hrel
              by_cases hlt : k < n
              · have hlt' : (k : Int) < n := by omega
                have hko : k < ord.length := by rw [HOl.out]; exact hlt
                obtain ⟨b3, o3, rfl, hb3, hord⟩ := ints_cells (HI4.out.below HK.out.1) (by omega)
                obtain ⟨tt, Htt⟩ : ∃ x, Hid (x = ord[k]) := ⟨_, Lib.hid rfl⟩
                have d3 := hord k hko
                rw [← Htt.out] at d3
                have HRd : Hid (tt ∉ ord.take k ∧ ∀ j, Tsk.Path l tt j → j ∈ ord.take k) := Lib.hid (by
                  have hko2 : k < (Tsk.orderL l).length := by rw [← HOrd.out]; exact hko
                  have e : tt = (Tsk.orderL l)[k] := by rw [Htt.out]; simp only [HOrd.out]
                  have h1 := (Tsk.readyB_iff.1 (Tsk.order_at hko2)).1
                  rw [← e, ← HOrd.out] at h1
                  refine ⟨h1, fun j hp => ?_⟩
                  rw [HOrd.out]
                  exact Tsk.order_path hp k hko2 e.symm)
                have htn : tt < n := by
                  rw [Htt.out, Hn.out]
                  simp only [HOrd.out]
                  exact (Tsk.order_good l).lt _ (List.getElem_mem _)
                have htn' : (tt : Int) < n := by omega
                have ht0 : ¬ (tt : Int) < 0 := by omega
                have ht1 : decide (n ≤ tt) = false := decide_eq_false (by omega)
                have y1 : wr.cell? ⟨gd, tt, none⟩ = some (.bool false) := by
                  rw [HK.out.2.cell tt, boolsC_get (by rw [Tsk.doneOf_len]; exact htn), Tsk.dn_doneOf htn, decide_eq_false HRd.out.1]
                have z1 := (HNe4.out.below HK.out.1).out tt htn
                have HOd := Lib.hid hord
                clear hord hb3
                go_wp2
                go_loop [12] (fun q => ∃ j : Nat, j ≤ n ∧ q = .int .i64 j) (fun q => n - (intOf q).toNat)
                case atStart => exact ⟨0, by omega, rfl⟩
                case round =>
                  obtain ⟨j, hj, rfl⟩ := hrel
                  by_cases hlt2 : j < n
                  · have hlt2' : (j : Int) < n := by omega
                    have z2 := (HNe4.out.below HK.out.1).val tt j htn hlt2
                    have z3 : wr.cell? ⟨gd, j, none⟩ = some (.bool (decide (j ∈ ord.take k))) := by
                      rw [HK.out.2.cell j, boolsC_get (by rw [Tsk.doneOf_len]; exact hlt2), Tsk.dn_doneOf hlt2]
                    obtain ⟨x, Hx⟩ : ∃ x, Hid (x = R tt j) := ⟨_, Lib.hid rfl⟩
                    rw [← Hx.out] at z2
                    cases x
                    · clear z3
                      go_wp2
                      go_round
                      case rel => exact ⟨j + 1, by omega, by go_num⟩
                      case measure => simp [intOf]; omega
                    · rw [decide_eq_true (HRd.out.2 j ((HNe4.out.path tt j htn hlt2).1 Hx.out.symm))] at z3
                      go_wp2
                      go_round
                      case rel => exact ⟨j + 1, by omega, by go_num⟩
                      case measure => simp [intOf]; omega
                  · obtain rfl : n = j := by omega
                    clear y1 z1
                    obtain ⟨bk, off, ao2, cap2, zs, rfl, hbk, -, -, -, c4, hin2, hzs, hzl, hz40⟩ := HNA2.out W HL.out tt htn
                    have HTask : Hid (∀ w', Below wr.heap.size wr w' → w'.cell? ⟨bk, off + tt * 4 + 3, none⟩ = some (.slice ao2 zs.length cap2) ∧ IsInts w' ao2 (Tsk.ints zs) ∧ bk < w'.heap.size) := Lib.hid fun w' hb => by
                      have hB := below_step (below_step HB4.out HK.out.1) hb
                      exact ⟨by rw [hB.cell (p := ⟨bk, off + tt * 4 + 3, none⟩) hbk]; exact c4, hin2.below hB, Nat.lt_of_lt_of_le hbk hB.size⟩
                    have HOrd2 : Hid (∀ w', Below wr.heap.size wr w' → ∀ q, (h : q < ord.length) → w'.cell? ⟨b3, o3 + q, none⟩ = some (.int .i64 (ord[q] : Nat))) := Lib.hid fun w' hb q h => by
                      rw [hb.cell (p := ⟨b3, o3 + q, none⟩) (lt_of_cell (HOd.out q h))]
                      exact HOd.out q h
                    obtain ⟨m, Hm⟩ : ∃ m, Hid (m = zs.length) := ⟨_, Lib.hid rfl⟩
                    rw [← Hm.out] at hz40 HTask
                    have HZ := Lib.hid hzs
                    have hcase : ∃ dr : Bool, (k = 0 ∧ dr = true ∨ ∃ q : Nat, ∃ h : q < ord.length, k = q + 1 ∧ dr = decide (ord[q] < tt)) ∧ (dr = false → 0 < k ∧ ∀ q, (h : q < ord.length) → k = q + 1 → ord[q] ∈ zs) := by
                      by_cases h0 : k = 0
                      · exact ⟨true, Or.inl ⟨h0, rfl⟩, fun h => by cases h⟩
                      · have hq : k - 1 < ord.length := by omega
                        refine ⟨decide (ord[k - 1] < tt), Or.inr ⟨k - 1, hq, by omega, rfl⟩, fun h => ⟨by omega, fun q hq2 he => ?_⟩⟩
                        obtain rfl : k - 1 = q := by omega
                        have h1 := of_decide_eq_false h
                        have hk2 : k - 1 + 1 < (Tsk.orderL l).length := by rw [← HOrd.out]; omega
                        have h2 := Tsk.order_direct hk2
                        simp only [← HOrd.out] at h2
                        have h3 : ord[k - 1 + 1]'(by omega) = tt := by
                          rw [Htt.out]
                          congr 1
                          omega
                        rw [h3] at h2
                        rcases h2 with h2 | h2
                        · omega
                        · rw [hzs]; exact h2
                    obtain ⟨dr, hdr, hdn⟩ := hcase
                    have HDn := Lib.hid hdn
                    have q3 := (HTask.out wr (Below.refl _ _)).1
                    have q4 := (HTask.out wr (Below.refl _ _)).2.2
                    clear hdn hzs hzl hin2 hbk c4 HOd
                    have hk40 : (k : Int) ≤ 40 := by omega
                    have hstep : (k = 0 ∧ dr = true) ∨ (∃ q pp : Nat, q < ord.length ∧ (k : Int) - 1 = q ∧ wr.cell? ⟨b3, o3 + q, none⟩ = some (.int .i64 pp) ∧ dr = decide (pp < tt)) := by
                      rcases hdr with h | ⟨q, h, h2, h3⟩
                      · exact Or.inl h
                      · exact Or.inr ⟨q, ord[q], h, by omega, HOrd2.out wr (Below.refl _ _) q h, h3⟩
                    clear hdr
                    rcases hstep with ⟨h0, rfl⟩ | ⟨q, pp, hql, hkq, hpp, hdr⟩
                    · clear HDn
                      subst h0
                      go_wp2
                      clear q3 q4
                      obtain ⟨wo, rfl⟩ : ∃ y, y = wr := ⟨_, rfl⟩
                      go_loopw [13, 14] (fun d j wr => d = .bool true ∧ j = .int .i64 0 ∧ wo = wr) (fun _ _ _ => 0)
                      case atStart => exact ⟨rfl, rfl, rfl⟩
                      case round =>
                        obtain ⟨rfl, rfl, rfl⟩ := hrel
                        have q3 := (HTask.out wo (Below.refl _ _)).1
                        have q4 := (HTask.out wo (Below.refl _ _)).2.2
                        have y1 : wo.cell? ⟨gd, tt, none⟩ = some (.bool (Tsk.dn (Tsk.doneOf n (ord.take 0)) tt)) := by rw [HK.out.2.cell tt, boolsC_get (by rw [Tsk.doneOf_len]; exact htn)]
                        have y2 := HK.out.2.frozen tt
                        have HNext : Hid (Below w4.heap.size w4 (wo.setCell ⟨gd, tt, none⟩ (.bool true)) ∧ Whole (wo.setCell ⟨gd, tt, none⟩ (.bool true)) gd 4 (boolsC (Tsk.doneOf n (ord.take (0 + 1))))) := Lib.hid (by
                          refine ⟨Below.setCell HK.out.1 (p := ⟨gd, tt, none⟩) (by show _ ≤ gd; rw [Hgd.out]; exact Nat.le_refl _) _, ?_⟩
                          have h2 := HK.out.2.set tt (.bool true)
                          rw [boolsC_set, Tsk.doneOf_set, Htt.out, ← List.take_succ_eq_append_getElem hko, ← Htt.out] at h2
                          exact h2)
                        by_cases hlt3 : 0 < m
                        all_goals
                          go_wp2
                          go_roundw
                          case rel => exact ⟨0 + 1, by omega, by go_num, HNext⟩
                          case measure => simp [intOf]; omega
                    · have e0 : ((k : Int) == 0) = false := by simp; omega
                      have hqn : (q : Int) < n := by have := HOl.out; omega
                      rw [hdr] at HDn
                      have HDr := HDn
                      clear hdr HDn
                      go_wp2
                      clear e0 q3 q4
                      clear hpp hkq hqn hql
                      obtain ⟨wo, rfl⟩ : ∃ y, y = wr := ⟨_, rfl⟩
                      go_loopw [13, 14] (fun d j wr => ∃ jj : Nat, jj ≤ m ∧ j = .int .i64 jj ∧ ∃ b : Bool, d = .bool b ∧ Hid (Below wo.heap.size wo wr) ∧ Hid (b = false → 0 < k ∧ ∀ q, (h : q < ord.length) → k = q + 1 → ∃ p, ∃ hp : p < zs.length, jj ≤ p ∧ zs[p] = ord[q])) (fun _ j _ => m - (intOf j).toNat)
                      case atStart => exact ⟨0, by omega, rfl, _, rfl, Lib.hid (Below.refl _ _), Lib.hid fun hb => ⟨(HDr.out hb).1, fun q h1 h2 => by
                        obtain ⟨p, hp, hpe⟩ := List.getElem_of_mem ((HDr.out hb).2 q h1 h2)
                        exact ⟨p, hp, by omega, hpe⟩⟩⟩
                      case round =>
                        obtain ⟨jj, hjj, rfl, b, rfl, HBj, HLt⟩ := hrel
                        have q3 := (HTask.out wr HBj.out).1
                        have q4 := (HTask.out wr HBj.out).2.2
                        cases b
                        · by_cases hlt3 : jj < m
                          · have hlt3' : (jj : Int) < m := by omega
                            obtain ⟨hk0, hlat⟩ := HLt.out rfl
                            obtain ⟨q, hq⟩ : ∃ q, q = k - 1 := ⟨_, rfl⟩
                            have hqo : q < ord.length := by omega
                            obtain ⟨p1, hp1, hp2, hp3⟩ := hlat q hqo (by omega)
                            have hkq2 : (k : Int) - 1 = (q : Int) := by omega
                            have hqn2 : (q : Int) < n := by have := HOl.out; omega
                            have HQ := Lib.hid (HOrd2.out wr HBj.out q hqo)
                            have hjz : jj < zs.length := by have := Hm.out; omega
                            obtain ⟨b4, o4, rfl, hb4, d4⟩ := ints_at (HTask.out wr HBj.out).2.1 hjz
                            obtain ⟨x, Hx⟩ : ∃ x : Nat, Hid (x = zs[jj]) := ⟨_, Lib.hid rfl⟩
                            obtain ⟨y, Hy⟩ : ∃ x : Nat, Hid (x = ord[q]) := ⟨_, Lib.hid rfl⟩
                            rw [← Hy.out] at HQ
                            rw [← Hx.out] at d4
                            have l1 := lt_of_cell q3
                            have l2 := lt_of_cell d4
                            have l3 := lt_of_cell HQ.out
                            have p1' : ∀ X : Grown wr, X.w.cell? ⟨bk, off + tt * 4 + 3, none⟩ = some (.slice (some ⟨b4, o4, none⟩) m cap2) := fun X => by rw [X.cell l1, q3]
                            have p2' : ∀ X : Grown wr, X.w.cell? ⟨b4, o4 + jj, none⟩ = some (.int .i64 (x : Int)) := fun X => by rw [X.cell l2, d4]
                            have p3' : ∀ X : Grown wr, X.w.cell? ⟨b3, o3 + q, none⟩ = some (.int .i64 (y : Int)) := fun X => by rw [X.cell l3, HQ.out]
                            have HLn : Hid (∀ b : Bool, b = ((x : Int) == (y : Int)) → b = false → 0 < k ∧ ∀ q, (h : q < ord.length) → k = q + 1 → ∃ p, ∃ hp : p < zs.length, jj + 1 ≤ p ∧ zs[p] = ord[q]) := Lib.hid fun b hb hbf => by
                              refine ⟨hk0, fun q2 h1 h2 => ?_⟩
                              obtain rfl : q = q2 := by omega
                              refine ⟨p1, hp1, ?_, hp3⟩
                              by_cases e : p1 = jj
                              · subst e
                                rw [← Hx.out, ← Hy.out] at hp3
                                rw [hbf, hp3] at hb
                                simp at hb
                              · omega
                            clear hlat hp1 hp2 hp3 hq hk0 hb4
                            go_wp2_with fail
                            refine wp_region_grown (by kernel_rfl) (by kernel_rfl) ?_
                            repeat (go_big_quiet_step (fail))
                            refine wpQuiet_nil ?_
                            rintro _ ⟨X, rfl⟩
                            go_wp2
                            go_roundw
                            case rel => exact ⟨jj + 1, by omega, by go_num, _, rfl, Lib.hid (HBj.out.trans (X.below.mono HBj.out.size)), Lib.hid (HLn.out _ rfl)⟩
                            case measure => simp [intOf]; omega
                          · exfalso
                            obtain ⟨hk0, hlat⟩ := HLt.out rfl
                            obtain ⟨p1, hp1, hp2, _⟩ := hlat (k - 1) (by omega) (by omega)
                            have := Hm.out
                            omega
                        · have HWr : Hid (Whole wr gd 4 (boolsC (Tsk.doneOf n (ord.take k)))) := Lib.hid ((HBj.out.block gd HK.out.2.lt).trans HK.out.2)
                          have y1 : wr.cell? ⟨gd, tt, none⟩ = some (.bool (Tsk.dn (Tsk.doneOf n (ord.take k)) tt)) := by rw [HWr.out.cell tt, boolsC_get (by rw [Tsk.doneOf_len]; exact htn)]
                          have y2 := HWr.out.frozen tt
                          have HNext : Hid (Below w4.heap.size w4 (wr.setCell ⟨gd, tt, none⟩ (.bool true)) ∧ Whole (wr.setCell ⟨gd, tt, none⟩ (.bool true)) gd 4 (boolsC (Tsk.doneOf n (ord.take (k + 1))))) := Lib.hid (by
                            refine ⟨Below.setCell (below_step HK.out.1 HBj.out) (p := ⟨gd, tt, none⟩) (by show _ ≤ gd; rw [Hgd.out]; exact Nat.le_refl _) _, ?_⟩
                            have h2 := HWr.out.set tt (.bool true)
                            rw [boolsC_set, Tsk.doneOf_set, Htt.out, ← List.take_succ_eq_append_getElem hko, ← Htt.out] at h2
                            exact h2)
                          by_cases hlt3 : jj < m
                          all_goals
                            go_wp2
                            go_roundw
                            case rel => exact ⟨k + 1, by omega, by go_num, HNext⟩
                            case measure => simp [intOf]; omega
              · obtain rfl : n = k := by omega
                go_wp2
                go_ret
                exact ⟨rfl, below_step HB4.out HK.out.1⟩
          · have HOV := Lib.hid (Tsk.orderE_cyc HVl.out (HC2.out.1 rfl))
            rw [HOV.out.1, HOV.out.2] at HO
            go_wp2_with fail
            refine (HO.out _ (HL.out.below HB3.out)).mono ?_
            rintro e w4 ⟨o1, k1, rfl, hb, -⟩
            have HB4 := Lib.hid (below_step HB3.out hb)
            clear hb
            go_wp2
            go_ret
            exact ⟨rfl, HB4.out⟩

end Go.Proofs.Ytejgbfaampllaaa
