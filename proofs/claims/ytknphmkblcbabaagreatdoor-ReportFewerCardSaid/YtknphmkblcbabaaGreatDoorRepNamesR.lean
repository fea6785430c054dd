/- report.Names. -/
import Derived.Test.YtknphmkblcbabaaGreatDoorRepNamesL
namespace Go.Proofs.YtknphmkblcbabaaGreatDoor
open Go.RowKit Go.Sort
open Evt

set_option maxRecDepth 100000 in
set_option maxHeartbeats 4000000 in
theorem repNames_any (r : Rp) (oo : Option Addr) (oc : Nat) (hc1 : r.opts.length ≤ oc) (hc2 : oc ≤ 9223372036854775807) (W : World) (hi : IsL 14 ElEv W oo r.opts) :
    Calls Tryz.prog 24 #[.agg #[.slice oo r.opts.length oc, .bool r.doubt]] W fun e w' => ∃ v, e = .returned v ∧ OwnS W.heap.size w' v (namesR r) ∧ Below W.heap.size W w' := by
  obtain ⟨V, HV⟩ : ∃ w, Hid (w = W.alloc (.cells #[.slice oo r.opts.length oc, .bool r.doubt] 31)) := ⟨_, Lib.hid rfl⟩
  obtain ⟨N, HN⟩ : ∃ N, Hid (N = W.heap.size) := ⟨_, Lib.hid rfl⟩
  have HB : Hid (Below W.heap.size W V) := Lib.hid (by rw [HV.out]; exact (Below.refl _ _).alloc (Nat.le_refl _) _)
  have HW : Hid (Whole V N 31 #[.slice oo r.opts.length oc, .bool r.doubt]) := Lib.hid (by rw [HV.out, HN.out]; exact Whole.new _ _ _)
  have HC := Lib.hid (repValid_any r oo oc hc1 hc2 V (hi.below stEv HB.out))
  have HNm := Lib.hid (fun (hv : validR r = true) (w : World) (hw : Below W.heap.size W w) => names_any oo r.opts oc (validR_len hv).2 (okUp_valid (by unfold validR at hv; simp only [Bool.and_eq_true] at hv; exact hv.2.2)) w (hi.below stEv hw))
  obtain ⟨R, HR⟩ : ∃ R, Hid (R = namesR r) := ⟨_, Lib.hid rfl⟩
  obtain ⟨v, Hv⟩ : ∃ v, Hid (v = validR r) := ⟨_, Lib.hid rfl⟩
  have HRe : Hid (R = if v then Lib.compact (srt (namesL r.opts)) else []) := Lib.hid (by rw [HR.out, Hv.out]; rfl)
  rw [← HR.out]
  rw [← Hv.out] at HC HNm
  obtain ⟨n, Hn⟩ : ∃ n, Hid (n = r.opts.length) := ⟨_, Lib.hid rfl⟩
  rw [← Hn.out] at HC HNm HV HW ⊢
  clear hi hc1 hc2
  go_enter Tryz.func24, Tryz.ntmps24
  go_wp2_with fail
  rw [← HV.out, ← HN.out]
  refine HC.out.mono ?_
  rintro e w1 ⟨rfl, hb⟩
  have HB1 := Lib.hid (below_step HB.out hb)
  have c0 : w1.cell? ⟨N, 0, none⟩ = some (.slice oo n oc) := (whole_belowM HW.out hb).cell 0
  clear hb
  cases v with
  | false =>
    obtain rfl : R = [] := by rw [HRe.out]; rfl
    go_wp2_with fail
    go_ret
    exact ⟨_, rfl, OwnS.nil _ _, HB1.out⟩
  | true =>
    obtain rfl : R = Lib.compact (srt (namesL r.opts)) := by rw [HRe.out]; rfl
    have HQ := Lib.hid (HNm.out rfl w1 HB1.out)
    go_wp2_with fail
    refine HQ.out.mono ?_
    rintro e w2 ⟨v2, rfl, ho, hb⟩
    have HO := Lib.hid ho
    have HB2 := Lib.hid (below_step HB1.out hb)
    clear ho hb
    go_wp2_with fail
    go_ret
    exact ⟨_, rfl, owns_baseM HO.out HB1.out.size, HB2.out⟩
end Go.Proofs.YtknphmkblcbabaaGreatDoor
