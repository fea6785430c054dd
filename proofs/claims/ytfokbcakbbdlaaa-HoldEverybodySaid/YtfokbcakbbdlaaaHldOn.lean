/- On: how many holds it returns. -/
import Derived.Test.YtfokbcakbbdlaaaHldFew
namespace Go.Proofs.Ytfokbcakbbdlaaa
open Go.RowKit
open Hld (Rc Hd)

def onB (v : ByteArray) (h : Hd) : Bool := decide (h.vehicle = v) && Hld.out h
theorem bytes_ne {s t : ByteArray} (h : ¬ s = t) : (s.toList == t.toList) = false :=
  beq_eq_false_iff_ne.2 (by rw [ByteArray.toList_eq, ByteArray.toList_eq]; exact fun e => h (by apply ByteArray.ext; apply Array.ext'; exact e))

theorem owns_set_ne {w : World} {b : Nat} {e : TypeId} {size k : Nat} {v : Value} {xs : List Value} {g i : Nat} (h : w.ownsRow b e size v k xs) (hne : v.ownBlock ≠ some g) (u : Value) : (w.setCell ⟨g, i, none⟩ u).ownsRow b e size v k xs :=
  h.kept (row := some g) ⟨rfl, rfl, rfl, by simp, fun j _ hj => Below.heap_setCell _ _ _ _ (fun e => hj (by rw [e]))⟩ (Or.inr hne)
set_option maxRecDepth 100000 in
set_option maxHeartbeats 8000000 in
theorem on_any (pa : Option Addr) (ca : Nat) (l : List Hd) (v : ByteArray) (hl : l.length ≤ 100000) (hm : ∀ h ∈ l, h.members.length ≤ 100000 ∧ h.back.length ≤ 100000) (W : World) (ha : IsHolds W pa l) :
    Calls Try.prog 16 #[.slice pa l.length ca, .string v] W fun e w' => ∃ ao cap, e = .returned (.slice ao (l.filter (onB v)).length cap) ∧ Below W.heap.size W w' := by
  obtain ⟨i1, hi1, hy0, hy1, hy2⟩ := info_parts info_hold
  have HA := Lib.hid ha
  have HM := Lib.hid hm
  clear ha hm
  obtain ⟨n, Hn⟩ : ∃ n, Hid (n = l.length) := ⟨_, Lib.hid rfl⟩
  rw [← Hn.out] at hl
  rw [← Hn.out]
  go_enter Try.func16, Try.ntmps16
  go_wp2_with fail
  go_loopw [10, 5] (fun i o wr => ∃ (k m : Nat) (ao : Option Addr) (cap : Nat), k ≤ n ∧ m ≤ k ∧ i = .int .i64 k ∧ o = .slice ao m cap ∧ Hid (m = ((l.take k).filter (onB v)).length ∧ Below W.heap.size W wr ∧ ∃ cs, wr.ownsRow W.heap.size 31 4 (.slice ao m cap) m cs)) (fun i _ _ => n - (intOf i).toNat)
  case atStart => exact ⟨0, 0, none, 0, Nat.zero_le _, Nat.le_refl _, by go_num, rfl, Lib.hid ⟨rfl, Below.refl _ _, _, World.ownsRow_nil _ _ _ _⟩⟩
  case round =>
    obtain ⟨k, m, ao, cap, hk, hmk, rfl, rfl, HR⟩ := hrel
    obtain ⟨cs, hcs⟩ := HR.out.2.2
    have HCs := Lib.hid hcs
    clear hcs
    by_cases hkn : k < n
    · have hd : decide ((k : Int) < n) = true := decide_eq_true (by omega)
      have hb0 : (0 : Int) ≤ k := by omega
      have hb1 : (k : Int) < n := by omega
      have hkz : k < l.length := by rw [← Hn.out]; exact hkn
      obtain ⟨bk, off, rfl, h1, a0, a1, mo, mc, bo, bc, a2, a3, a4, a5⟩ := HA.out.at hkz
      have hmm := HM.out _ (List.getElem_mem hkz)
      have HOut : Hid (∀ w, Below W.heap.size W w → Calls Try.prog 13 #[hdV l[k] mo mc bo bc] w fun e w' => e = .returned (.bool (Hld.out l[k])) ∧ Below w.heap.size w w') := Lib.hid (fun w hw => out_any l[k] mo mc bo bc (by omega) (by omega) w (a4.below hw) (a5.below hw))
      unfold hdV at HOut
      have HCA : Hid (∀ w, Below W.heap.size W w → Calls Try.prog 23 #[.slice mo l[k].members.length mc] w fun e w' => ∃ v', e = .returned v' ∧ w'.ownsRow w.heap.size 3 1 v' l[k].members.length (intsC l[k].members) ∧ Below w.heap.size w w') := Lib.hid (fun w hw => clone_any mo _ mc (by omega) w (a4.below hw))
      have HCB : Hid (∀ w, Below W.heap.size W w → Calls Try.prog 23 #[.slice bo l[k].back.length bc] w fun e w' => ∃ v', e = .returned v' ∧ w'.ownsRow w.heap.size 3 1 v' l[k].back.length (intsC l[k].back) ∧ Below w.heap.size w w') := Lib.hid (fun w hw => clone_any bo _ bc (by omega) w (a5.below hw))
      obtain ⟨id, Hid'⟩ : ∃ m, Hid (m = l[k].id) := ⟨_, Lib.hid rfl⟩
      obtain ⟨ve, Hve⟩ : ∃ m, Hid (m = l[k].vehicle) := ⟨_, Lib.hid rfl⟩
      obtain ⟨ml, Hml⟩ : ∃ m, Hid (m = l[k].members.length) := ⟨_, Lib.hid rfl⟩
      obtain ⟨bl, Hbl⟩ : ∃ m, Hid (m = l[k].back.length) := ⟨_, Lib.hid rfl⟩
      obtain ⟨ob, Hob⟩ : ∃ m, Hid (m = Hld.out l[k]) := ⟨_, Lib.hid rfl⟩
      rw [← Hid'.out, ← Hve.out, ← Hml.out, ← Hbl.out, ← Hob.out] at HOut
      rw [← Hml.out] at HCA
      rw [← Hbl.out] at HCB
      have HOn : Hid (∀ b, onB v l[k] = b → ((l.take (k + 1)).filter (onB v)).length = if b then m + 1 else m) := Lib.hid (fun b hb => by
        rw [List.take_succ_eq_append_getElem hkz, List.filter_append, List.length_append, ← HR.out.1]
        cases b <;> simp [List.filter_cons, hb])
      have HB : Hid (onB v l[k] = (decide (ve = v) && ob)) := Lib.hid (by unfold onB; rw [Hve.out, Hob.out])
      replace a0 := (cell_below HR.out.2.1 h1).trans a0
      replace a1 := (cell_below HR.out.2.1 h1).trans a1
      replace a2 := (cell_below HR.out.2.1 h1).trans a2
      replace a3 := (cell_below HR.out.2.1 h1).trans a3
      rw [← Hid'.out] at a0
      rw [← Hve.out] at a1
      rw [← Hml.out] at a2
      rw [← Hbl.out] at a3
      clear a4 a5 hmm
      by_cases hv : ve = v
      · have hve : (ve.toList == v.toList) = true := by rw [hv]; exact beq_self_eq_true _
        rw [decide_eq_true hv] at HB
        clear hv
        go_wp2_with fail
        obtain ⟨R, HRe⟩ : ∃ R, Hid (R = wr.heap.size) := ⟨_, Lib.hid rfl⟩
        obtain ⟨y, Hy⟩ : ∃ y, Hid (y = wr.alloc (.cells #[.string id, .string ve, .slice mo ml mc, .slice bo bl bc] 31)) := ⟨_, Lib.hid rfl⟩
        have HBy := Lib.hid (show Below W.heap.size W y ∧ Below wr.heap.size wr y by rw [Hy.out]; exact ⟨HR.out.2.1.alloc HR.out.2.1.size _, (Below.refl _ _).alloc (Nat.le_refl _) _⟩)
        have HWy := Lib.hid (show Whole y R 31 #[.string id, .string ve, .slice mo ml mc, .slice bo bl bc] by rw [Hy.out, HRe.out]; exact Whole.new _ _ _)
        have HCy := Lib.hid (owns_below HCs.out HBy.out.2)
        rw [← Hy.out, ← HRe.out]
        refine (HOut.out _ HBy.out.1).mono ?_
        rintro e z ⟨rfl, hb⟩
        have HBz := Lib.hid (And.intro (below_step HBy.out.1 hb) hb)
        have HWz := Lib.hid (whole_below HWy.out hb)
        have HCz := Lib.hid (owns_below HCy.out hb)
        clear hb a0 a1 a2 a3
        cases ob with
        | false =>
          have HF := Lib.hid (HOn.out false (by rw [HB.out]; rfl))
          go_wp2_with fail
          go_round
          case rel => exact ⟨k + 1, m, ao, cap, by omega, by omega, by go_num, rfl, Lib.hid ⟨HF.out.symm, HBz.out.1, cs, HCz.out⟩⟩
          case measure => simp [intOf]; omega
        | true =>
          have HF := Lib.hid (HOn.out true (by rw [HB.out]; rfl))
          have HCell : Hid (∀ w, Below z.heap.size z w → w.cell? ⟨R, 2, none⟩ = some (.slice mo ml mc) ∧ w.cell? ⟨R, 3, none⟩ = some (.slice bo bl bc) ∧ w.frozen? ⟨R, 2, none⟩ = false ∧ w.frozen? ⟨R, 3, none⟩ = false) := Lib.hid (fun w hw => by
            have := whole_below HWz.out hw
            exact ⟨this.cell 2, this.cell 3, this.frozen 2, this.frozen 3⟩)
          obtain ⟨z2, z3, f2, f3⟩ := HCell.out z (Below.refl _ _)
          go_wp2_with fail
          go_region_law (first
            | (go_simp; go_at_call 23; refine (HCA.out _ HBz.out.1.drew).mono ?_; rintro e w1 ⟨mv, rfl, hown, hb⟩; obtain ⟨mo2, mc2, rfl⟩ := owns_shape hown; have HB1 : Hid (Below z.heap.size z w1) := Lib.hid ((Below.refl _ _).drew.trans hb); obtain ⟨p2, p3, g2, g3⟩ := HCell.out w1 HB1.out; clear hown hb)
            | (have hq := HB1; go_simp; go_at_call 23; refine (HCB.out _ (below_step HBz.out.1 HB1.out)).mono ?_; rintro e w2 ⟨bv, rfl, hown, hb⟩; obtain ⟨bo2, bc2, rfl⟩ := owns_shape hown; have HB2 : Hid (Below z.heap.size z w2) := Lib.hid (below_step HB1.out hb); obtain ⟨q2, q3, e2, e3⟩ := HCell.out w2 HB2.out; clear hown hb))
          all_goals
            obtain ⟨u, Hu⟩ : ∃ u, Hid (u = (w2.setCell ⟨R, 2, none⟩ (.slice mo2 ml mc2)).setCell ⟨R, 3, none⟩ (.slice bo2 bl bc2)) := ⟨_, Lib.hid rfl⟩
            have HWu := Lib.hid (show Whole u R 31 #[.string id, .string ve, .slice mo2 ml mc2, .slice bo2 bl bc2] by rw [Hu.out]; exact ((whole_below HWz.out HB2.out).set 2 _).set 3 _)
            have hRW : W.heap.size ≤ R := by rw [HRe.out]; exact HR.out.2.1.size
            have HBu := Lib.hid (show Below W.heap.size W u by rw [Hu.out]; exact ((below_step HBz.out.1 HB2.out).setCell (p := ⟨R, 2, none⟩) hRW _).setCell (p := ⟨R, 3, none⟩) hRW _)
            have hne : (Value.slice ao m cap).ownBlock ≠ some R := fun e => by have := (HCs.out.lt _ e).2; rw [← HRe.out] at this; omega
            have HCu := Lib.hid (show u.ownsRow W.heap.size 31 4 (.slice ao m cap) m cs by rw [Hu.out]; exact owns_set_ne (owns_set_ne (owns_below HCz.out HB2.out) hne _) hne _)
            have u0 : u.cell? ⟨R, 0, none⟩ = some (.string id) := HWu.out.cell 0
            have u1 : u.cell? ⟨R, 1, none⟩ = some (.string ve) := HWu.out.cell 1
            have u2 : u.cell? ⟨R, 2, none⟩ = some (.slice mo2 ml mc2) := HWu.out.cell 2
            have u3 : u.cell? ⟨R, 3, none⟩ = some (.slice bo2 bl bc2) := HWu.out.cell 3
            have huW : W.heap.size ≤ u.heap.size := HBu.out.size
            have HNw : Hid (∀ (i : Nat) (x : Value), [Value.string id, Value.string ve, Value.slice mo2 ml mc2, Value.slice bo2 bl bc2][i]? = some x → (u.alloc (.cells #[.string id, .string ve, .slice mo2 ml mc2, .slice bo2 bl bc2] 31)).cell? ((⟨u.heap.size, 0, none⟩ : Addr).add i) = some x) := Lib.hid (by
              intro i x hx
              have e : (⟨u.heap.size, 0, none⟩ : Addr).add i = ⟨u.heap.size, i, none⟩ := by unfold Addr.add; split <;> simp_all
              rw [e, cell_alloc, if_pos rfl]
              simpa using hx)
            rw [← Hu.out]
            clear z2 z3 f2 f3 hne hRW
            go_wp2_with (at_builtin; refine wpList_append_own _ rfl _ _ 26 rfl W.heap.size 31 i1 (.agg #[.string ⟨#[]⟩, .string ⟨#[]⟩, .slice none 0 0, .slice none 0 0]) 4 80 Try.underlying26 hi1 hy0 hy1 hy2 rfl (by decide) _ _ _ rfl (HCu.out.alloc _) ⟨u.heap.size, 0, none⟩ 1 1 [.string id, .string ve, .slice mo2 ml mc2, .slice bo2 bl bc2] rfl rfl HNw.out (by simp [Value.oneCell']) (by unfold maxLen; omega) (by omega) (by rw [size_alloc]; omega) ?_; intro v' w9 hown hgrow _; obtain ⟨vo, vc, rfl⟩ := owns_shape hown; have HW9 := Lib.hid hown; have HB9 : Hid (Below W.heap.size W w9) := Lib.hid ((HBu.out.alloc huW _).grown hgrow (by rw [size_alloc]; omega) (fun j e => (HCu.out.lt j e).1)); clear hown hgrow)
            go_round
            case rel => exact ⟨k + 1, m + 1, vo, vc, by omega, by omega, by go_num, rfl, Lib.hid ⟨HF.out.symm, HB9.out, _, HW9.out⟩⟩
            case measure => simp [intOf]; omega
      · have hve := bytes_ne hv
        rw [decide_eq_false hv] at HB
        have HF := Lib.hid (HOn.out false HB.out)
        go_wp2_with fail
        go_round
        case rel => exact ⟨k + 1, m, ao, cap, by omega, by omega, by go_num, rfl, Lib.hid ⟨HF.out.symm, HR.out.2.1.alloc HR.out.2.1.size _, cs, HCs.out.alloc _⟩⟩
        case measure => simp [intOf]; omega
    · have hd : decide ((k : Int) < n) = false := decide_eq_false (by omega)
      have hm := HR.out.1
      rw [List.take_of_length_le (by rw [← Hn.out]; omega)] at hm
      have HmL := Lib.hid hm
      clear hm
      go_wp2_with fail
      go_ret
      exact ⟨ao, cap, by rw [← HmL.out]; rfl, HR.out.2.1⟩

end Go.Proofs.Ytfokbcakbbdlaaa
