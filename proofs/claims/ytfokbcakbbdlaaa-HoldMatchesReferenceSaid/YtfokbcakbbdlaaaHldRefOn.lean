/- The reference's On. -/
import Derived.Test.YtfokbcakbbdlaaaHldRefA
import Derived.Test.YtfokbcakbbdlaaaHldRowsH
namespace Go.Proofs.Ytfokbcakbbdlaaa
open Go.RowKit
open Hld (Rc Hd)

set_option maxRecDepth 100000 in
set_option maxHeartbeats 4000000 in
theorem refOn_any (pa : Option Addr) (ca : Nat) (l : List Hd) (v : ByteArray) (hl : l.length ≤ 100000) (hm : ∀ h ∈ l, h.members.length ≤ 100000 ∧ h.back.length ≤ 100000) (W : World) (ha : IsHolds W pa l) :
    Calls Try.prog 17 #[.slice pa l.length ca, .string v] W fun e w' => ∃ ao cap, e = .returned (.slice ao (l.filter (onB v)).length cap) ∧ IsHolds w' ao (l.filter (onB v)) ∧ Below W.heap.size W w' := by
  obtain ⟨i1, hi1, hy0, hy1, hy2⟩ := info_parts info_hold
  have HA := Lib.hid ha
  have HM := Lib.hid hm
  clear ha hm
  obtain ⟨n, Hn⟩ : ∃ n, Hid (n = l.length) := ⟨_, Lib.hid rfl⟩
  rw [← Hn.out] at hl
  rw [← Hn.out]
  go_enter Try.func17, Try.ntmps17
  go_wp2_with fail
  go_loopw [6, 5] (fun i o wr => ∃ (k m : Nat) (ao : Option Addr) (cap : Nat), k ≤ n ∧ m ≤ k ∧ i = .int .i64 k ∧ o = .slice ao m cap ∧ Hid (m = ((l.take k).filter (onB v)).length ∧ Below W.heap.size W wr ∧ ∃ cs, wr.ownsRow W.heap.size 31 4 (.slice ao m cap) m cs ∧ HCs (IJ W wr) ((l.take k).filter (onB v)) cs)) (fun i _ _ => n - (intOf i).toNat)
  case atStart => exact ⟨0, 0, none, 0, Nat.zero_le _, Nat.le_refl _, by go_num, rfl, Lib.hid ⟨rfl, Below.refl _ _, [], World.ownsRow_nil _ _ _ _, rfl⟩⟩
  case round =>
    obtain ⟨k, m, ao, cap, hk, hmk, rfl, rfl, HR⟩ := hrel
    obtain ⟨cs, hcs, hhc⟩ := HR.out.2.2
    have HCr := Lib.hid hcs
    have HHc := Lib.hid hhc
    clear hcs hhc
    by_cases hkn : k < n
    · have hd : decide ((k : Int) < n) = true := decide_eq_true (by omega)
      have hb0 : (0 : Int) ≤ k := by omega
      have hb1 : (k : Int) < n := by omega
      have hkz : k < l.length := by rw [← Hn.out]; exact hkn
      obtain ⟨bk, off, rfl, h1, a0, a1, mo, mc, bo, bc, a2, a3, a4, a5⟩ := HA.out.at hkz
      have hmm := HM.out _ (List.getElem_mem hkz)
      have HOut : Hid (∀ w, Below W.heap.size W w → Calls Try.prog 14 #[hdV l[k] mo mc bo bc] w fun e w' => e = .returned (.bool (Hld.out l[k])) ∧ Below w.heap.size w w') := Lib.hid (fun w hw => refOut_any l[k] mo mc bo bc (by omega) (by omega) w (a4.below hw) (a5.below hw))
      unfold hdV at HOut
      have HJ1 := Lib.hid a4
      have HJ2 := Lib.hid a5
      obtain ⟨id, Hid'⟩ : ∃ m, Hid (m = l[k].id) := ⟨_, Lib.hid rfl⟩
      obtain ⟨ve, Hve⟩ : ∃ m, Hid (m = l[k].vehicle) := ⟨_, Lib.hid rfl⟩
      obtain ⟨ml, Hml⟩ : ∃ m, Hid (m = l[k].members.length) := ⟨_, Lib.hid rfl⟩
      obtain ⟨bl, Hbl⟩ : ∃ m, Hid (m = l[k].back.length) := ⟨_, Lib.hid rfl⟩
      obtain ⟨ob, Hob⟩ : ∃ m, Hid (m = Hld.out l[k]) := ⟨_, Lib.hid rfl⟩
      rw [← Hid'.out, ← Hve.out, ← Hml.out, ← Hbl.out, ← Hob.out] at HOut
      have HFl : Hid (∀ b, onB v l[k] = b → (l.take (k + 1)).filter (onB v) = (l.take k).filter (onB v) ++ if b then [l[k]] else []) := Lib.hid (fun b hb => by rw [filter_next hkz, hb])
      have HB : Hid (onB v l[k] = (decide (ve = v) && ob)) := Lib.hid (by unfold onB; rw [Hve.out, Hob.out])
      have HLo := Lib.hid h1
      have HD0 := Lib.hid a0
      have HD1 := Lib.hid a1
      have HD2 := Lib.hid a2
      have HD3 := Lib.hid a3
      replace a0 := (cell_below HR.out.2.1 h1).trans a0
      replace a1 := (cell_below HR.out.2.1 h1).trans a1
      replace a2 := (cell_below HR.out.2.1 h1).trans a2
      replace a3 := (cell_below HR.out.2.1 h1).trans a3
      rw [← Hid'.out] at a0
      rw [← Hve.out] at a1
      rw [← Hml.out] at a2
      rw [← Hbl.out] at a3
      clear a4 a5 hmm
      by_cases hv : ve = v
      · have hve : (ve.toList == v.toList) = true := by rw [hv]; exact beq_self_eq_true _
        rw [decide_eq_true hv] at HB
        clear hv
        go_wp2_with fail
        refine (HOut.out _ HR.out.2.1).mono ?_
        rintro e z ⟨rfl, hb⟩
        have HBz := Lib.hid (And.intro (below_step HR.out.2.1 hb) hb)
        have HCz := Lib.hid (owns_below HCr.out hb)
        clear hb a0 a1 a2 a3
        cases ob with
        | false =>
          have HG : Hid (((l.take (k + 1)).filter (onB v)) = ((l.take k).filter (onB v))) := Lib.hid (by rw [HFl.out false (by rw [HB.out]; rfl), if_neg (by simp), List.append_nil])
          go_wp2_with fail
          go_round
          case rel => exact ⟨k + 1, m, ao, cap, by omega, by omega, by go_num, rfl, Lib.hid ⟨by rw [HG.out]; exact HR.out.1, HBz.out.1, cs, HCz.out, by rw [HG.out]; exact HHc.out.mono fun _ _ _ h => h.below HBz.out.2⟩⟩
          case measure => simp [intOf]; omega
        | true =>
          have HG : Hid (((l.take (k + 1)).filter (onB v)) = ((l.take k).filter (onB v)) ++ [l[k]]) := Lib.hid (by rw [HFl.out true (by rw [HB.out]; rfl), if_pos rfl])
          have a0 := (cell_below HBz.out.1 h1).trans HD0.out
          have a1 := (cell_below HBz.out.1 h1).trans HD1.out
          have a2 := (cell_below HBz.out.1 h1).trans HD2.out
          have a3 := (cell_below HBz.out.1 h1).trans HD3.out
          rw [← Hid'.out] at a0
          rw [← Hve.out] at a1
          rw [← Hml.out] at a2
          rw [← Hbl.out] at a3
          have hzW : W.heap.size ≤ (z.alloc (.cells #[.string id, .string ve, .slice mo ml mc, .slice bo bl bc] 31)).heap.size := by rw [size_alloc]; have := HBz.out.1.size; omega
          have HNw : Hid (∀ (i : Nat) (x : Value), [Value.string id, Value.string ve, Value.slice mo ml mc, Value.slice bo bl bc][i]? = some x → (z.alloc (.cells #[.string id, .string ve, .slice mo ml mc, .slice bo bl bc] 31)).cell? ((⟨z.heap.size, 0, none⟩ : Addr).add i) = some x) := Lib.hid (by
            intro i x hx
            have e : (⟨z.heap.size, 0, none⟩ : Addr).add i = ⟨z.heap.size, i, none⟩ := by unfold Addr.add; split <;> simp_all
            rw [e, cell_alloc, if_pos rfl]
            simpa using hx)
          go_wp2_with (at_builtin; refine wpList_append_own _ rfl _ _ 26 rfl W.heap.size 31 i1 (.agg #[.string ⟨#[]⟩, .string ⟨#[]⟩, .slice none 0 0, .slice none 0 0]) 4 80 Try.underlying26 hi1 hy0 hy1 hy2 rfl (by decide) _ _ _ rfl (HCz.out.alloc _) ⟨z.heap.size, 0, none⟩ 1 1 [.string id, .string ve, .slice mo ml mc, .slice bo bl bc] rfl rfl HNw.out (by simp [Value.oneCell']) (by unfold maxLen; omega) (by omega) hzW ?_; intro v' w9 hown hgrow _; obtain ⟨vo, vc, rfl⟩ := owns_shape hown; have HW9 := Lib.hid hown; have HG9 := Lib.hid (show ∀ a c zs, IJ W z a c zs → IJ W w9 a c zs from fun a c zs h => (h.below ((Below.refl _ _).alloc (Nat.le_refl _) _)).grown (HCz.out.alloc _) hgrow); have HB9 : Hid (Below W.heap.size W w9) := Lib.hid ((HBz.out.1.alloc HBz.out.1.size _).grown hgrow hzW (fun j e => (HCz.out.lt j e).1)); clear hown hgrow)
          go_round
          case rel =>
            refine ⟨k + 1, m + 1, vo, vc, by omega, by omega, by go_num, rfl, Lib.hid ⟨by rw [HG.out, List.length_append, ← HR.out.1]; rfl, HB9.out, _, HW9.out, ?_⟩⟩
            rw [HG.out, Hid'.out, Hve.out, Hml.out, Hbl.out]
            exact (HHc.out.mono fun _ _ _ h => HG9.out _ _ _ (h.below HBz.out.2)).snoc (Or.inl HJ1.out) (Or.inl HJ2.out)
          case measure => simp [intOf]; omega
      · have hve := bytes_ne hv
        rw [decide_eq_false hv] at HB
        have HG : Hid (((l.take (k + 1)).filter (onB v)) = ((l.take k).filter (onB v))) := Lib.hid (by rw [HFl.out false HB.out, if_neg (by simp), List.append_nil])
        go_wp2_with fail
        go_round
        case rel => exact ⟨k + 1, m, ao, cap, by omega, by omega, by go_num, rfl, Lib.hid ⟨by rw [HG.out]; exact HR.out.1, HR.out.2.1, cs, HCr.out, by rw [HG.out]; exact HHc.out⟩⟩
        case measure => simp [intOf]; omega
    · have hd : decide ((k : Int) < n) = false := decide_eq_false (by omega)
      have hm := HR.out.1
      have HHl := HHc.out
      rw [List.take_of_length_le (by rw [← Hn.out]; omega)] at hm HHl
      have HmL := Lib.hid hm
      have HFi := Lib.hid (holds_of_row HmL.out HCr.out HHl HR.out.2.1)
      clear hm HHl
      go_wp2_with fail
      go_ret
      exact ⟨ao, cap, by rw [← HmL.out]; rfl, HFi.out, HR.out.2.1⟩

end Go.Proofs.Ytfokbcakbbdlaaa
