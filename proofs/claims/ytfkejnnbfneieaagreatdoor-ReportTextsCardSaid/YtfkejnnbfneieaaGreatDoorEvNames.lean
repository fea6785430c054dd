/- event.Names. -/
import Derived.Test.YtfkejnnbfneieaaGreatDoorOwnStr
namespace Go.Proofs.YtfkejnnbfneieaaGreatDoor
open Go.RowKit Go.Sort
open Evt

namespace Evt
def bts (s : ByteArray) : List UInt8 := s.data.toList
theorem enc_bts (s : ByteArray) : encStr (bts s) = .string s := rfl
noncomputable def namesE (e : Ev) : List (List UInt8) := if valid e then (if e.op = 2 then srt [bts e.part, bts e.into] else [bts e.part]) else []
theorem namesE_len (e : Ev) : (namesE e).length ≤ 2 := by
  unfold namesE
  split
  · split
    · rw [srt_len]; simp
    · simp
  · simp
theorem namesE_pos {e : Ev} (h : valid e = true) : 0 < (namesE e).length := by
  unfold namesE
  rw [if_pos h]
  split
  · rw [srt_len]; simp
  · simp
end Evt
theorem ptr_add0 (g i : Nat) : (⟨g, 0, none⟩ : Addr).add i = ⟨g, i, none⟩ := by unfold Addr.add; split <;> simp_all

set_option maxRecDepth 100000 in
set_option maxHeartbeats 8000000 in
theorem evNames_any (x : Ev) (hx : Sz x) (W : World) :
    Calls Tryz.prog 57 #[.agg (evC x).toArray] W fun e w' => ∃ v, e = .returned v ∧ OwnS W.heap.size w' v (namesE x) ∧ Below W.heap.size W w' := by
  obtain ⟨i1, hi1, hy0, hy1, hy2⟩ := infoP info_strE
  obtain ⟨V, HV⟩ : ∃ w, Hid (w = W.alloc (.cells (evC x).toArray 50)) := ⟨_, Lib.hid rfl⟩
  obtain ⟨N, HN⟩ : ∃ N, Hid (N = W.heap.size) := ⟨_, Lib.hid rfl⟩
  have HB : Hid (Below W.heap.size W V) := Lib.hid (by rw [HV.out]; exact (Below.refl _ _).alloc (Nat.le_refl _) _)
  have HW : Hid (Whole V N 50 (evC x).toArray) := Lib.hid (by rw [HV.out, HN.out]; exact Whole.new _ _ _)
  have HC := Lib.hid (evValid_any x hx V)
  have HSp := Lib.hid ev_size
  obtain ⟨R, HR⟩ : ∃ R, Hid (R = namesE x) := ⟨_, Lib.hid rfl⟩
  obtain ⟨v, Hv⟩ : ∃ v, Hid (v = Evt.valid x) := ⟨_, Lib.hid rfl⟩
  have HRe : Hid (R = if v then (if x.op = 2 then srt [bts x.part, bts x.into] else [bts x.part]) else []) := Lib.hid (by rw [HR.out, Hv.out]; rfl)
  rw [← HR.out]
  rw [← Hv.out] at HC
  clear hx HR Hv
  obtain ⟨x0, x1, x2, x3, x4, x5, x6, x7, x8, x9, xa, xb, xc, xd⟩ := x
  dsimp only at HRe
  unfold evC at HV HC ⊢
  go_enter Tryz.func57, Tryz.ntmps57
  go_wp2_with fail
  rw [← HV.out, ← HN.out]
  refine HC.out.mono ?_
  rintro e w1 ⟨rfl, hb⟩
  have HB1 := Lib.hid (below_step HB.out hb)
  have HW1 := Lib.hid (whole_belowM HW.out hb)
  clear hb
  cases v with
  | false =>
    obtain rfl : R = [] := by rw [HRe.out]; rfl
    go_wp2_with fail
    go_ret
    exact ⟨_, rfl, by rw [HN.out]; exact OwnS.nil _ _, HB1.out⟩
  | true =>
  have c0 : w1.cell? ⟨N, 0, none⟩ = some (.int .i64 x0) := HW1.out.cell 0
  have c2 : w1.cell? ⟨N, 2, none⟩ = some (.string x2) := HW1.out.cell 2
  obtain ⟨g1, Hg1⟩ : ∃ g, Hid (g = w1.heap.size) := ⟨_, Lib.hid rfl⟩
  obtain ⟨w2, Hw2⟩ : ∃ w, Hid (w = w1.alloc (.cells #[.string x2] 9)) := ⟨_, Lib.hid rfl⟩
  have HB2 : Hid (Below W.heap.size W w2) := Lib.hid (by rw [Hw2.out]; exact below_alloc HB1.out _)
  have HB12 : Hid (Below w1.heap.size w1 w2) := Lib.hid (by rw [Hw2.out]; exact (Below.refl _ _).alloc (Nat.le_refl _) _)
  have HO2 : Hid (OwnS W.heap.size w2 (.slice (some ⟨g1, 0, none⟩) 1 1) [bts x2]) := Lib.hid (by
    refine ⟨rfl, Or.inr ⟨g1, 1, #[.string x2], rfl, by rw [Hg1.out]; exact HB1.out.size, by rw [Hw2.out, Hg1.out]; exact Whole.new _ _ _, Nat.le_refl _, by unfold maxLen; omega, rfl, rfl⟩⟩)
  have n0 : w2.cell? ⟨N, 0, none⟩ = some (.int .i64 x0) := (whole_belowM HW1.out HB12.out).cell 0
  have n4 : w2.cell? ⟨N, 4, none⟩ = some (.string x4) := (whole_belowM HW1.out HB12.out).cell 4
  go_wp2_with (first
    | (with_reducible show wpList _ _ _ (Oper.mk _ (Op.fieldAddr _ (.tmp 1) 0) _ _ _ _ :: _) _ _; refine Hid.out ?_))
  refine Lib.hid ?_
  rw [← Hw2.out, ← Hg1.out]
  by_cases h2 : x0 = 2
  · subst h2
    obtain rfl : R = srt [bts x2, bts x4] := by rw [HRe.out]; rfl
    obtain ⟨g2, Hg2⟩ : ∃ g, Hid (g = w2.heap.size) := ⟨_, Lib.hid rfl⟩
    obtain ⟨w3, Hw3⟩ : ∃ w, Hid (w = w2.alloc (.cells #[.string x4] 9)) := ⟨_, Lib.hid rfl⟩
    have HB3 : Hid (Below W.heap.size W w3) := Lib.hid (by rw [Hw3.out]; exact below_alloc HB2.out _)
    have HO3 : Hid (OwnS W.heap.size w3 (.slice (some ⟨g1, 0, none⟩) 1 1) [bts x2]) := Lib.hid (HO2.out.below (by rw [Hw3.out]; exact (Below.refl _ _).alloc (Nat.le_refl _) _))
    have HW3 : Hid (Whole w3 g2 9 #[.string x4]) := Lib.hid (by rw [Hw3.out, Hg2.out]; exact Whole.new _ _ _)
    have HNr : Hid (∀ (i : Nat) (u : Value), [Value.string x4][i]? = some u → w3.cell? ((⟨g2, 0, none⟩ : Addr).add i) = some u) := Lib.hid (by
      intro i u hu
      rw [ptr_add0, HW3.out.cell]
      simpa using hu)
    have hw3 := Hw3.out
    have hg2 := Hg2.out
    clear c0 c2
    go_wp2_with (at_builtin; rw [← hw3, ← hg2]; refine wpList_append_own _ rfl _ _ 41 rfl W.heap.size 9 i1 _ 1 16 Tryz.underlying41 hi1 hy0 hy1 hy2 rfl (by decide) (.slice (some ⟨g1, 0, none⟩) 1 1) 1 ([bts x2].map encStr) rfl HO3.out ⟨g2, 0, none⟩ 1 1 [.string x4] rfl rfl HNr.out (by simp [Value.oneCell']) (by unfold maxLen; omega) (by omega) HB3.out.size ?_; intro v' w4 hown hgrow _; refine Hid.out ?_)
    refine Lib.hid ?_
    clear hw3 hg2
    have HO4 : Hid (OwnS W.heap.size w4 v' [bts x2, bts x4]) := Lib.hid hown
    have HB4 : Hid (Below W.heap.size W w4) := Lib.hid (grown_below HO3.out rfl HB3.out hgrow)
    have HSt := Lib.hid (sort_own W.heap.size v' [bts x2, bts x4] (by simp) w4 HO4.out)
    clear hown hgrow n0 n4
    go_wp2_with fail
    refine HSt.out.mono ?_
    rintro e w5 ⟨rfl, ho5, hg5⟩
    have HO5 := Lib.hid ho5
    have HB5 : Hid (Below W.heap.size W w5) := Lib.hid (grown_below HO4.out rfl HB4.out hg5)
    clear ho5 hg5
    go_wp2_with fail
    go_ret
    exact ⟨_, rfl, by rw [HN.out]; exact HO5.out, HB5.out⟩
  · have e2 : (x0 == 2) = false := by simpa using h2
    obtain rfl : R = [bts x2] := by rw [HRe.out]; simp [h2]
    go_wp2_with fail
    go_ret
    exact ⟨_, rfl, by rw [HN.out]; exact HO2.out, HB2.out⟩
end Go.Proofs.YtfkejnnbfneieaaGreatDoor
