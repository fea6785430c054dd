/- The reference's Picked: the reports at some indices. -/
import Derived.Test.YtolnpimnoajcaaaLnkOfA
namespace Go.Proofs.Ytolnpimnoajcaaa
open Go.RowKit
open Evt Lnk

theorem info_rpL : (Try.prog.info? 40).map (fun i => (i.zero, i.size, i.bytes)) = some (some (.agg #[.slice none 0 0, .bool false]), 2, 32) := by kernel_rfl
theorem news_two (w : World) (t : TypeId) (x y : Value) : ∀ j u, [x, y][j]? = some u → (w.alloc (.cells #[x, y] t)).cell? ((⟨w.heap.size, 0, none⟩ : Addr).add j) = some u := fun j u hu => by
  have e : (⟨w.heap.size, 0, none⟩ : Addr).add j = ⟨w.heap.size, j, none⟩ := by unfold Addr.add; split <;> simp_all
  rw [e, (Whole.new w t #[x, y]).cell]
  simpa using hu
/-- A row of the call's own that holds reports. -/
structure OwnRp (W : World) (w : World) (v : Value) (rs : List Rp) : Prop where
  ex : ∃ css : List (List Value), css.length = rs.length ∧ (∀ cs ∈ css, cs.length = 2) ∧ (∀ k (h : k < rs.length) (h' : k < css.length), ElRp W css[k] rs[k]) ∧ w.ownsRow W.heap.size 40 2 v rs.length css.flatten
theorem OwnRp.isL {W w : World} {ao : Option Addr} {m c : Nat} {rs : List Rp} (h : OwnRp W w (.slice ao m c) rs) (hb : Below W.heap.size W w) : m = rs.length ∧ IsL 2 ElRp w ao rs := by
  obtain ⟨css, h1, h2, h3, h4⟩ := h.ex
  have hm : m = rs.length := by
    obtain ⟨a, c', e⟩ := owns_shapeM h4
    injection e
  subst hm
  exact ⟨rfl, IsL.row h4 rfl h1 h2 (fun k hk hk' => stRp _ _ _ _ (h3 k hk hk') hb)⟩
set_option maxRecDepth 100000 in
set_option maxHeartbeats 4000000 in
theorem picked_any (l : List Rp) (ao : Option Addr) (cap : Nat) (g : List Nat) (v : Value) (hl : l.length ≤ 1000000) (hg : g.length ≤ 1000000) (hlt : ∀ i ∈ g, i < l.length) (W : World) (hi : IsL 2 ElRp W ao l) (hv : IsN W v g) :
    Calls Try.prog 23 #[.slice ao l.length cap, v] W fun e w' => ∃ u, e = .returned u ∧ OwnRp W w' u (g.filterMap fun i => l[i]?) ∧ Below W.heap.size W w' := by
  obtain ⟨i1, hi1, hy0, hy1, hy2⟩ := infoP info_rpL
  obtain ⟨bo, bc, rfl, hv⟩ := hv
  have HI := Lib.hid hi
  have HV := Lib.hid hv
  have HLt := Lib.hid hlt
  clear hi hv hlt
  obtain ⟨n, Hn⟩ : ∃ n, Hid (n = l.length) := ⟨_, Lib.hid rfl⟩
  obtain ⟨m, Hm⟩ : ∃ n, Hid (n = g.length) := ⟨_, Lib.hid rfl⟩
  rw [← Hn.out, ← Hm.out]
  rw [← Hn.out] at hl
  rw [← Hm.out] at hg
  go_enter Try.func23, Try.ntmps23
  go_wp2_with fail
  go_loopw [5, 6] (fun sv i wr => ∃ (k : Nat) (lv : Value), k ≤ m ∧ sv = lv ∧ i = .int .i64 k ∧ Hid (Below W.heap.size W wr ∧ OwnRp W wr lv ((g.take k).filterMap fun i => l[i]?))) (fun _ i _ => m - (intOf i).toNat)
  case atStart => exact ⟨0, _, Nat.zero_le _, rfl, by go_num, Lib.hid ⟨Below.refl _ _, [], rfl, by simp, fun k h => by simp at h, World.ownsRow_nil _ _ _ _⟩⟩
  case round =>
    obtain ⟨k, lv, hk, hlv, rfl, HR⟩ := hrel
    replace hlv := hlv.symm
    subst hlv
    by_cases hkm : k < m
    · have hd : decide ((k : Int) < m) = true := decide_eq_true (by omega)
      have hb0 : (0 : Int) ≤ k := by omega
      have hb1 : (k : Int) < m := by omega
      have hkg : k < g.length := by rw [← Hm.out]; exact hkm
      obtain ⟨b, rfl, hb, cc⟩ := HV.out k hkg
      obtain ⟨x, Hx⟩ : ∃ x, Hid (x = g[k]) := ⟨_, Lib.hid rfl⟩
      rw [← Hx.out] at cc
      have cc := (cellB HR.out.1 hb).trans cc
      have hxl : x < l.length := by rw [Hx.out]; exact HLt.out _ (List.getElem_mem hkg)
      have hx0 : (0 : Int) ≤ x := by omega
      have hxn : (x : Int) < n := by rw [Hn.out]; omega
      obtain ⟨bk, off, cs, rfl, hbk, hrg, oo, oc, rfl, hel⟩ := HI.out.at hxl
      obtain ⟨y, Hy⟩ : ∃ m, Hid (m = l[x]) := ⟨_, Lib.hid rfl⟩
      rw [← Hy.out] at hrg hel
      have HEl : Hid (ElRp W [.slice oo y.opts.length oc, .bool y.doubt] y) := Lib.hid ⟨oo, oc, rfl, hel⟩
      have hrg := rangeB hrg hbk HR.out.1
      have c0 := hrg 0 _ rfl
      have c1 := hrg 1 _ rfl
      rw [Nat.add_zero] at c0
      obtain ⟨on, Hon⟩ : ∃ m, Hid (m = y.opts.length) := ⟨_, Lib.hid rfl⟩
      obtain ⟨yd, Hyd⟩ : ∃ m, Hid (m = y.doubt) := ⟨_, Lib.hid rfl⟩
      rw [← Hon.out] at c0 HEl
      rw [← Hyd.out] at c1 HEl
      obtain ⟨rs, Hrs⟩ : ∃ x, Hid (x = (g.take k).filterMap fun i => l[i]?) := ⟨_, Lib.hid rfl⟩
      have HNx : Hid ((g.take (k + 1)).filterMap (fun i => l[i]?) = rs ++ [y]) := Lib.hid (by
        rw [← List.take_append_getElem hkg, List.filterMap_append, ← Hrs.out, ← Hx.out]
        simp [List.getElem?_eq_getElem hxl, Hy.out])
      have hrl : rs.length ≤ k := by
        rw [Hrs.out]
        exact Nat.le_trans (List.length_filterMap_le _ _) (by rw [List.length_take]; omega)
      obtain ⟨css, q1, q2, q3, q4⟩ := HR.out.2.ex
      rw [← Hrs.out] at q1 q3 q4
      obtain ⟨L, HL⟩ : ∃ x, Hid (x = rs.length) := ⟨_, Lib.hid rfl⟩
      rw [← HL.out] at q4 hrl
      have HQ : Hid (css.length = rs.length ∧ (∀ cs ∈ css, cs.length = 2) ∧ (∀ k (h : k < rs.length) (h' : k < css.length), ElRp W css[k] rs[k])) := Lib.hid ⟨q1, q2, by intro k h h'; exact q3 k h h'⟩
      have HBA : Hid (Below wr.heap.size wr (wr.alloc (.cells #[.slice oo on oc, .bool yd] 40))) := Lib.hid ((Below.refl _ _).alloc (Nat.le_refl _) _)
      have HBW := Lib.hid (below_step HR.out.1 HBA.out)
      have HOx : Hid ((wr.alloc (.cells #[.slice oo on oc, .bool yd] 40)).ownsRow W.heap.size 40 2 lv L css.flatten) := Lib.hid (owns_belowM q4 HBA.out)
      have HNs := Lib.hid (news_two wr 40 (.slice oo on oc) (.bool yd))
      have HOn : Hid (∀ u ∈ [Value.slice oo on oc, Value.bool yd], u.oneCell' = true) := Lib.hid (by simp [Value.oneCell'])
      have hsz := HBW.out.size
      clear hrg hel q1 q2 q3 q4
      go_wp2_with (at_builtin; refine wpList_append_own _ rfl _ _ 22 rfl W.heap.size 40 i1 _ 2 32 Try.underlying22 hi1 hy0 hy1 hy2 rfl (by decide) lv L css.flatten rfl HOx.out ⟨wr.heap.size, 0, none⟩ 1 1 [.slice oo on oc, .bool yd] rfl (by simp) HNs.out HOn.out (by unfold maxLen; omega) (by omega) hsz ?_; intro v' w4 hown hgrow _; refine Hid.out ?_)
      refine Lib.hid ?_
      have HB4 : Hid (Below W.heap.size W w4) := Lib.hid (HBW.out.grown hgrow hsz (fun y e => (HOx.out.lt y e).1))
      have HO4 : Hid (OwnRp W w4 v' ((g.take (k + 1)).filterMap fun i => l[i]?)) := Lib.hid (by
        rw [HNx.out]
        refine ⟨css ++ [[.slice oo on oc, .bool yd]], by rw [List.length_append, List.length_append, HQ.out.1]; rfl, fun cs hcs => ?_, fun j hj hj' => ?_, ?_⟩
        · rw [List.mem_append, List.mem_singleton] at hcs
          rcases hcs with hcs | hcs
          · exact HQ.out.2.1 cs hcs
          · rw [hcs]; rfl
        · by_cases hjl : j < rs.length
          · rw [List.getElem_append_left hjl, List.getElem_append_left (by rw [HQ.out.1]; exact hjl)]
            exact HQ.out.2.2 j hjl _
          · have : j = rs.length := by rw [List.length_append, List.length_singleton] at hj; omega
            subst this
            rw [List.getElem_append_right (Nat.le_refl _), List.getElem_append_right (by rw [HQ.out.1]; exact Nat.le_refl _)]
            simp only [HQ.out.1, Nat.sub_self, List.getElem_cons_zero]
            exact HEl.out
        · rw [List.length_append, ← HL.out, List.flatten_append]
          simpa using hown)
      clear hown hgrow hsz
      go_wp2_with fail
      go_round
      case rel => exact ⟨k + 1, _, by omega, rfl, by go_num, Lib.hid ⟨HB4.out, HO4.out⟩⟩
      case measure => simp [intOf]; omega
    · obtain rfl : k = m := by omega
      have hd : decide ((k : Int) < k) = false := decide_eq_false (by omega)
      have HO : Hid (OwnRp W wr lv (g.filterMap fun i => l[i]?)) := Lib.hid (by have := HR.out.2; rwa [Hm.out, List.take_length] at this)
      go_wp2_with fail
      go_ret
      exact ⟨_, rfl, HO.out, HR.out.1⟩
end Go.Proofs.Ytolnpimnoajcaaa
