/- The law's in: whether a list of strings has one. -/
import Derived.Test.YtolnpimnoajcaaaLnkFew
namespace Go.Proofs.Ytolnpimnoajcaaa
open Go.RowKit
open Evt Lnk

def IsS (W : World) (v : Value) (ss : List (List UInt8)) : Prop := ∃ ao c, v = .slice ao ss.length c ∧ ∀ j (h : j < ss.length), ∃ b, ao = some ⟨b, 0, none⟩ ∧ b < W.heap.size ∧ W.cell? ⟨b, j, none⟩ = some (.string ⟨ss[j].toArray⟩)
theorem IsS.below {W w : World} {v : Value} {l : List (List UInt8)} (h : IsS W v l) (hb : Below W.heap.size W w) : IsS w v l := by
  obtain ⟨ao, c, e, h1⟩ := h
  exact ⟨ao, c, e, fun j hj => by obtain ⟨b, h2, h3, h4⟩ := h1 j hj; exact ⟨b, h2, Nat.lt_of_lt_of_le h3 hb.size, (cellB hb h3).trans h4⟩⟩
theorem IsS.owns {B : Nat} {W : World} {v : Value} {ss : List (List UInt8)} (h : OwnS B W v ss) : IsS W v ss := by
  obtain ⟨ao, c, rfl⟩ := h.shape
  refine ⟨ao, c, rfl, fun j hj => ?_⟩
  obtain ⟨g, cp, e, _, ⟨cur, hw⟩, hc⟩ := owns_whole_put h hj
  injection e with e _ _
  refine ⟨g, e, hw.lt, hc j _ ?_⟩
  rw [List.getElem?_map, List.getElem?_eq_getElem hj]
  rfl
theorem eq_listL {s : List UInt8} {t : ByteArray} : ((⟨s.toArray⟩ : ByteArray).toList == t.toList) = decide (s = bts t) := by
  have e : ∀ a b : ByteArray, (a.toList == b.toList) = decide (a = b) := fun a b => by
    by_cases h : a = b
    · subst h; simp
    · rw [decide_eq_false h]
      exact beq_eq_false_iff_ne.2 (by rw [ByteArray.toList_eq, ByteArray.toList_eq]; exact fun e => h (by apply ByteArray.ext; apply Array.ext'; exact e))
  rw [e]
  congr 1
  refine propext ⟨fun h => ?_, fun h => ?_⟩
  · rw [← h]; rfl
  · rw [h]; rfl

set_option maxRecDepth 100000 in
set_option maxHeartbeats 4000000 in
theorem in_any (ss : List (List UInt8)) (hl : ss.length ≤ 1000000) (x : ByteArray) (W : World) (va : Value) (ha : IsS W va ss) :
    Calls Try.prog 22 #[va, .string x] W fun e w' => e = .returned (.bool (decide (bts x ∈ ss))) ∧ Below W.heap.size W w' := by
  obtain ⟨ao, ac, rfl, ha⟩ := ha
  have HA := Lib.hid ha
  clear ha
  obtain ⟨R, HR0⟩ : ∃ b, Hid (b = decide (bts x ∈ ss)) := ⟨_, Lib.hid rfl⟩
  obtain ⟨n, Hn⟩ : ∃ n, Hid (n = ss.length) := ⟨_, Lib.hid rfl⟩
  rw [← HR0.out, ← Hn.out]
  rw [← Hn.out] at hl
  go_enter Try.func22, Try.ntmps22
  go_wp2_with fail
  go_loopw [5] (fun i wr => ∃ k : Nat, k ≤ n ∧ i = .int .i64 k ∧ Hid (Below W.heap.size W wr ∧ bts x ∉ ss.take k)) (fun i _ => n - (intOf i).toNat)
  case atStart => exact ⟨0, Nat.zero_le _, by go_num, Lib.hid ⟨Below.refl _ _, by simp⟩⟩
  case round =>
    obtain ⟨k, hk, rfl, HR⟩ := hrel
    by_cases hkn : k < n
    · have hd : decide ((k : Int) < n) = true := decide_eq_true (by omega)
      have hb0 : (0 : Int) ≤ k := by omega
      have hb1 : (k : Int) < n := by omega
      have hkl : k < ss.length := by rw [← Hn.out]; exact hkn
      obtain ⟨ba, rfl, hba, ca⟩ := HA.out k hkl
      have ca := (cellB HR.out.1 hba).trans ca
      obtain ⟨T, HT⟩ : ∃ T : ByteArray, Hid (T = ⟨ss[k].toArray⟩) := ⟨_, Lib.hid rfl⟩
      rw [← HT.out] at ca
      obtain ⟨b, e1⟩ : ∃ b, (T.toList == x.toList) = b := ⟨_, rfl⟩
      have Heb : Hid (decide (ss[k] = bts x) = b) := Lib.hid (by rw [← eq_listL, ← HT.out]; exact e1)
      cases b with
      | true =>
        have HRt : Hid (R = true) := Lib.hid (by rw [HR0.out]; exact decide_eq_true (by rw [← of_decide_eq_true Heb.out]; exact List.getElem_mem hkl))
        obtain rfl := HRt.out
        go_wp2_with fail
        go_ret
        exact ⟨rfl, HR.out.1⟩
      | false =>
        have HNx : Hid (bts x ∉ ss.take (k + 1)) := Lib.hid (by
          rw [← List.take_append_getElem hkl, List.mem_append, List.mem_singleton]
          rintro (h | h)
          · exact HR.out.2 h
          · exact of_decide_eq_false Heb.out h.symm)
        go_wp2_with fail
        go_round
        case rel => exact ⟨k + 1, by omega, by go_num, Lib.hid ⟨HR.out.1, HNx.out⟩⟩
        case measure => simp [intOf]; omega
    · obtain rfl : k = n := by omega
      have hd : decide ((k : Int) < k) = false := decide_eq_false (by omega)
      have HRf : Hid (R = false) := Lib.hid (by
        rw [HR0.out]
        have := HR.out.2
        rw [Hn.out, List.take_length] at this
        exact decide_eq_false this)
      obtain rfl := HRf.out
      go_wp2_with fail
      go_ret
      exact ⟨rfl, HR.out.1⟩
end Go.Proofs.Ytolnpimnoajcaaa
