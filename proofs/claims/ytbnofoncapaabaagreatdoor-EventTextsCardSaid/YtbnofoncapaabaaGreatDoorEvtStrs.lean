/- Two lists that go on alike. -/
import Derived.Test.YtbnofoncapaabaaGreatDoorMonoG
import Derived.Test.YtbnofoncapaabaaGreatDoorRunW
import Derived.Test.YtbnofoncapaabaaGreatDoorIsS
namespace Go.Proofs.YtbnofoncapaabaaGreatDoor
theorem ext_takeS {α : Type} {l m : List α} {k : Nat} (h : l.take k = m.take k) (hl : k < l.length) (hm : k < m.length) (e : l[k] = m[k]) : l.take (k + 1) = m.take (k + 1) := by
  rw [List.take_add_one, List.take_add_one, h, List.getElem?_eq_getElem hl, List.getElem?_eq_getElem hm, e]
end Go.Proofs.YtbnofoncapaabaaGreatDoor

/- The reference's comparing of lists of strings. -/
namespace Go.Proofs.YtbnofoncapaabaaGreatDoor
open Go.RowKit
open Evt

namespace Evt
def strsB (l m : List (List UInt8)) : Bool := decide (l = m)
theorem strsB_iff {l m : List (List UInt8)} : strsB l m = true ↔ l = m := by unfold strsB; simp
theorem strsB_no {l m : List (List UInt8)} (h : l ≠ m) : strsB l m = false := by
  cases hq : strsB l m with
  | false => rfl
  | true => exact absurd (strsB_iff.1 hq) h
end Evt
theorem rNeqStr {P : Program} (d : Option Tmp) (t : TypeId) (pos : String) (af : Array Edge) (g : Option (Nat × Bool)) (A : Act) (w : World) (T U : TypeId) (x y : Operand) (a b : ByteArray) (hx : A.eval x = .string a) (hy : A.eval y = .string b) : (execOp A.eval ⟨d, .binOp .neq T x y U, t, pos, af, g⟩).run P w = .ok (.value (.bool (a.toList != b.toList))) w := by
  unfold execOp
  simp only [hx, hy]
  go_simp
  try simp [bne]
theorem bytes_eq {a b : ByteArray} (h : a.toList = b.toList) : a = b := by
  rw [ByteArray.toList_eq, ByteArray.toList_eq] at h
  apply ByteArray.ext; apply Array.ext'; exact h

def s9sP (ba ca bb cb n k : Nat) (x y : ByteArray) (b : Bool) : Nat → Value → World → Prop
  | 0, v, _ => v = .slice (some ⟨ba, 0, none⟩) n ca
  | 1, v, _ => v = .int .i64 k
  | 2, v, _ => v = .pointer (some ⟨ba, 0 + k * 1, none⟩)
  | 3, v, _ => v = .string x
  | 4, v, _ => v = .slice (some ⟨bb, 0, none⟩) n cb
  | 5, v, _ => v = .int .i64 k
  | 6, v, _ => v = .pointer (some ⟨bb, 0 + k * 1, none⟩)
  | 7, v, _ => v = .string y
  | 8, v, _ => v = .bool b
  | _, _, _ => True
theorem s9sP_below {ba ca bb cb n k : Nat} {x y : ByteArray} {b : Bool} : ∀ j u w w', s9sP ba ca bb cb n k x y b j u w → Below w.heap.size w w' → s9sP ba ca bb cb n k x y b j u w'
  | 0, _, _, _, h, _ => h
  | 1, _, _, _, h, _ => h
  | 2, _, _, _, h, _ => h
  | 3, _, _, _, h, _ => h
  | 4, _, _, _, h, _ => h
  | 5, _, _, _, h, _ => h
  | 6, _, _, _, h, _ => h
  | 7, _, _, _, h, _ => h
  | 8, _, _, _, h, _ => h
  | _ + 9, _, _, _, _, _ => trivial
set_option maxRecDepth 100000 in
set_option maxHeartbeats 4000000 in
theorem strs09_any (l m : List (List UInt8)) (hl : l.length ≤ 1000000) (hm : m.length ≤ 1000000) (v u : Value) (W : World) (ha : IsS W v l) (hb : IsS W u m) :
    Calls Tryz.prog 15 #[v, u] W fun e w' => e = .returned (.bool (strsB l m)) ∧ Below W.heap.size W w' := by
  obtain ⟨ao, ca, rfl, ha⟩ := ha
  obtain ⟨bo, cb, rfl, hb⟩ := hb
  have HA := Lib.hid ha
  have HB := Lib.hid hb
  clear ha hb
  obtain ⟨R, HR0⟩ : ∃ b, Hid (b = strsB l m) := ⟨_, Lib.hid rfl⟩
  obtain ⟨n, Hn⟩ : ∃ n, Hid (n = l.length) := ⟨_, Lib.hid rfl⟩
  obtain ⟨n', Hn'⟩ : ∃ n, Hid (n = m.length) := ⟨_, Lib.hid rfl⟩
  rw [← HR0.out, ← Hn.out, ← Hn'.out]
  rw [← Hn.out] at hl
  rw [← Hn'.out] at hm
  by_cases hnm : n = n'
  case neg =>
    have hd : ((n : Int) == n') = false := by simp; omega
    have hd' : ((n : Int) != n') = true := by simp; omega
    obtain rfl : R = false := by
      rw [HR0.out]
      exact strsB_no (fun h => hnm (by rw [Hn.out, Hn'.out, h]))
    go_enter Tryz.func15, Tryz.ntmps15
    go_wp2_with fail
    go_ret
    exact ⟨rfl, Below.refl _ _⟩
  subst hnm
  have hd : ((n : Int) == n) = true := by simp
  have hd' : ((n : Int) != n) = false := by simp
  go_enter Tryz.func15, Tryz.ntmps15
  go_wp2_with fail
  go_loopw [5] (fun i wr => ∃ k : Nat, k ≤ n ∧ i = .int .i64 k ∧ Hid (Below W.heap.size W wr ∧ l.take k = m.take k)) (fun i _ => n - (intOf i).toNat)
  case atStart => exact ⟨0, Nat.zero_le _, by go_num, Lib.hid ⟨Below.refl _ _, by simp⟩⟩
  case round =>
    obtain ⟨k, hk, rfl, HR⟩ := hrel
    by_cases hkn : k < n
    · have hd2 : decide ((k : Int) < n) = true := decide_eq_true (by omega)
      have hb0 : (0 : Int) ≤ k := by omega
      have hb1 : (k : Int) < n := by omega
      have hkl : k < l.length := by rw [← Hn.out]; exact hkn
      have hkm : k < m.length := by rw [← Hn'.out]; exact hkn
      obtain ⟨ba, rfl, hba, hra⟩ := HA.out k hkl
      obtain ⟨bb, rfl, hbb, hrb⟩ := HB.out k hkm
      obtain ⟨x, Hx⟩ : ∃ x : ByteArray, Hid (x = ⟨l[k].toArray⟩) := ⟨_, Lib.hid rfl⟩
      obtain ⟨y, Hy⟩ : ∃ x : ByteArray, Hid (x = ⟨m[k].toArray⟩) := ⟨_, Lib.hid rfl⟩
      rw [← Hx.out] at hra
      rw [← Hy.out] at hrb
      have ek : k = 0 + k * 1 := by omega
      have HRx : Hid (∀ w, Below wr.heap.size wr w → w.cell? ⟨ba, 0 + k * 1, none⟩ = some (.string x)) := Lib.hid (fun w hw => by rw [← ek]; exact (cellB (below_step HR.out.1 hw) hba).trans hra)
      have HRy : Hid (∀ w, Below wr.heap.size wr w → w.cell? ⟨bb, 0 + k * 1, none⟩ = some (.string y)) := Lib.hid (fun w hw => by rw [← ek]; exact (cellB (below_step HR.out.1 hw) hbb).trans hrb)
      clear hra hrb hba hbb ek
      obtain ⟨b, Hb⟩ : ∃ b, Hid ((x.toList != y.toList) = b) := ⟨_, Lib.hid rfl⟩
      go_wp2_with fail
      apply wp_region_monoG 26 (s9sP ba ca bb cb n k x y b) s9sP_below (by kernel_rfl) (by kernel_rfl) rfl
      · intro i o g b ho hgd u w hu
        have hi : i < 9 := by have := (List.getElem?_eq_some_iff.1 ho).1; simpa using this
        have hi : i = 0 ∨ i = 1 ∨ i = 2 ∨ i = 3 ∨ i = 4 ∨ i = 5 ∨ i = 6 ∨ i = 7 ∨ i = 8 := by omega
        rcases hi with rfl | rfl | rfl | rfl | rfl | rfl | rfl | rfl | rfl
        all_goals
          simp only [List.getElem?_cons_succ, List.getElem?_cons_zero, Option.some.injEq] at ho
          subst ho
          cases hgd
          all_goals exact hu
      · intro i o ho w A' hlow hsee haway
        have q0 : A'.eval (.tmp 0) = .slice (some ⟨ba, 0, none⟩) n ca := (haway 0 (by kernel_rfl)).trans rfl
        have q1 : A'.eval (.tmp 1) = .slice (some ⟨bb, 0, none⟩) n cb := (haway 1 (by kernel_rfl)).trans rfl
        have q5 : A'.eval (.tmp 5) = .int .i64 k := (haway 5 (by kernel_rfl)).trans rfl
        have hi : i < 9 := by have := (List.getElem?_eq_some_iff.1 ho).1; simpa using this
        have hi : i = 0 ∨ i = 1 ∨ i = 2 ∨ i = 3 ∨ i = 4 ∨ i = 5 ∨ i = 6 ∨ i = 7 ∨ i = 8 := by omega
        rcases hi with rfl | rfl | rfl | rfl | rfl | rfl | rfl | rfl | rfl
        all_goals
          simp only [List.getElem?_cons_succ, List.getElem?_cons_zero, Option.some.injEq] at ho
          subst ho
        · exact wp_of_runL (rMove _ _ _ _ _ A' w (.tmp 0) _ q0) ⟨_, rfl, Below.refl _ _, rfl⟩
        · exact wp_of_runL (rMove _ _ _ _ _ A' w (.tmp 5) _ q5) ⟨_, rfl, Below.refl _ _, rfl⟩
        · have q17 : A'.eval (.tmp 17) = .slice (some ⟨ba, 0, none⟩) n ca := hsee 17 0 (by kernel_rfl) (by kernel_rfl)
          have q18 : A'.eval (.tmp 18) = .int .i64 k := hsee 18 1 (by kernel_rfl) (by kernel_rfl)
          exact wp_of_runL (rIndex _ _ _ _ _ A' w 36 9 1 (.tmp 17) (.tmp 18) ba 0 n ca k k Tryz.underlying36 (by kernel_rfl) (by omega) (by omega) q17 q18) ⟨_, rfl, Below.refl _ _, rfl⟩
        · have q19 : A'.eval (.tmp 19) = .pointer (some ⟨ba, 0 + k * 1, none⟩) := hsee 19 2 (by kernel_rfl) (by kernel_rfl)
          exact wp_of_runL (rLoad1 _ _ _ _ _ A' w 9 (.tmp 19) _ _ _ Tryz.underlying9 rfl (HRx.out w hlow) q19) ⟨_, rfl, Below.refl _ _, rfl⟩
        · exact wp_of_runL (rMove _ _ _ _ _ A' w (.tmp 1) _ q1) ⟨_, rfl, Below.refl _ _, rfl⟩
        · exact wp_of_runL (rMove _ _ _ _ _ A' w (.tmp 5) _ q5) ⟨_, rfl, Below.refl _ _, rfl⟩
        · have q21 : A'.eval (.tmp 21) = .slice (some ⟨bb, 0, none⟩) n cb := hsee 21 4 (by kernel_rfl) (by kernel_rfl)
          have q22 : A'.eval (.tmp 22) = .int .i64 k := hsee 22 5 (by kernel_rfl) (by kernel_rfl)
          exact wp_of_runL (rIndex _ _ _ _ _ A' w 36 9 1 (.tmp 21) (.tmp 22) bb 0 n cb k k Tryz.underlying36 (by kernel_rfl) (by omega) (by omega) q21 q22) ⟨_, rfl, Below.refl _ _, rfl⟩
        · have q23 : A'.eval (.tmp 23) = .pointer (some ⟨bb, 0 + k * 1, none⟩) := hsee 23 6 (by kernel_rfl) (by kernel_rfl)
          exact wp_of_runL (rLoad1 _ _ _ _ _ A' w 9 (.tmp 23) _ _ _ Tryz.underlying9 rfl (HRy.out w hlow) q23) ⟨_, rfl, Below.refl _ _, rfl⟩
        · have q20 : A'.eval (.tmp 20) = .string x := hsee 20 3 (by kernel_rfl) (by kernel_rfl)
          have q24 : A'.eval (.tmp 24) = .string y := hsee 24 7 (by kernel_rfl) (by kernel_rfl)
          exact wp_of_runL ((rNeqStr _ _ _ _ _ A' w _ _ (.tmp 20) (.tmp 24) x y q20 q24).trans (by rw [Hb.out])) ⟨_, rfl, Below.refl _ _, rfl⟩
      intro e wz hlow hall
      obtain ⟨v0, e0, -⟩ := hall 0 (by decide)
      obtain ⟨v1, e1, -⟩ := hall 1 (by decide)
      obtain ⟨v2, e2, -⟩ := hall 2 (by decide)
      obtain ⟨v3, e3, -⟩ := hall 3 (by decide)
      obtain ⟨v4, e4, -⟩ := hall 4 (by decide)
      obtain ⟨v5, e5, -⟩ := hall 5 (by decide)
      obtain ⟨v6, e6, -⟩ := hall 6 (by decide)
      obtain ⟨v7, e7, -⟩ := hall 7 (by decide)
      obtain ⟨v8, e8, h8⟩ := hall 8 (by decide)
      have h8' : v8 = .bool b := h8
      subst h8'
      clear h8
      have HLow := Lib.hid hlow
      simp only [List.length_cons, List.length_nil, Nat.reduceAdd, fillTo, e0, e1, e2, e3, e4, e5, e6, e7, e8, dstOf]
      clear e0 e1 e2 e3 e4 e5 e6 e7 e8 hlow hall
      go_simp
      have HBz := Lib.hid (below_step HR.out.1 HLow.out)
      by_cases hq : x = y
      case neg =>
        obtain rfl : b = true := by rw [← Hb.out]; exact bne_iff_ne.2 (fun h => hq (bytes_eq h))
        obtain rfl : R = false := by
          rw [HR0.out]
          refine strsB_no (fun h => hq ?_)
          rw [Hx.out, Hy.out]; simp only [h]
        clear hq
        go_wp2_with fail
        go_ret
        exact ⟨rfl, HBz.out⟩
      case pos =>
        obtain rfl : b = false := by rw [← Hb.out, hq]; simp
        have HNx : Hid (l.take (k + 1) = m.take (k + 1)) := Lib.hid (ext_takeS HR.out.2 hkl hkm (by
          have h := hq
          rw [Hx.out, Hy.out] at h
          have h2 := congrArg (fun b : ByteArray => b.data.toList) h
          simpa using h2))
        clear hq
        go_wp2_with fail
        go_round
        case rel => exact ⟨k + 1, by omega, by go_num, Lib.hid ⟨HBz.out, HNx.out⟩⟩
        case measure => simp [intOf]; omega
    · obtain rfl : k = n := by omega
      have hd2 : decide ((k : Int) < k) = false := decide_eq_false (by omega)
      obtain rfl : R = true := by
        rw [HR0.out]
        refine strsB_iff.2 ?_
        have h := HR.out.2
        rw [List.take_of_length_le (by rw [← Hn.out]; omega), List.take_of_length_le (by rw [← Hn'.out]; omega)] at h
        exact h
      go_wp2_with fail
      go_ret
      exact ⟨rfl, HR.out.1⟩
end Go.Proofs.YtbnofoncapaabaaGreatDoor
