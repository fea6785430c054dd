/- link's parents: root and join. -/
import Derived.Test.YtolnpimnoajcaaaLnkMath
import Derived.Test.YtolnpimnoajcaaaOnly
import Derived.Test.YtolnpimnoajcaaaMemCopy
namespace Go.Proofs.Ytolnpimnoajcaaa
open Go.RowKit
open Lnk

def pC (n : Nat) (p : Nat → Nat) : List Value := (List.range n).map fun i => Value.int .i64 (p i)
theorem pC_len (n : Nat) (p : Nat → Nat) : (pC n p).length = n := by unfold pC; simp
theorem pC_get (n : Nat) (p : Nat → Nat) (j : Nat) : (pC n p)[j]? = if j < n then some (.int .i64 (p j)) else none := by
  unfold pC
  by_cases h : j < n <;> simp [h]
/-- Block b holds the parents. -/
def IsP (w : World) (b n : Nat) (p : Nat → Nat) : Prop := Whole w b 3 (pC n p).toArray
section
variable {w w' : World} {b n : Nat} {p : Nat → Nat}
theorem IsP.cell (h : IsP w b n p) {i : Nat} (hi : i < n) : w.cell? ⟨b, i, none⟩ = some (.int .i64 (p i)) := by
  rw [Whole.cell h]
  have : i < (pC n p).length := by rw [pC_len]; exact hi
  rw [List.getElem?_toArray, List.getElem?_eq_getElem this]
  simp [pC]
theorem IsP.frozen (h : IsP w b n p) (i : Nat) : w.frozen? ⟨b, i, none⟩ = false := Whole.frozen h i
theorem IsP.set (h : IsP w b n p) (i x : Nat) : IsP (w.setCell ⟨b, i, none⟩ (.int .i64 x)) b n (upd p i x) := by
  have := Whole.set h i (.int .i64 x)
  have e : (pC n p).toArray.setIfInBounds i (.int .i64 x) = (pC n (upd p i x)).toArray := by
    rw [List.setIfInBounds_toArray]
    congr 1
    apply List.ext_getElem?
    intro j
    rw [List.getElem?_set, pC_get, pC_get, pC_len]
    unfold upd
    by_cases e : i = j
    · subst e
      by_cases hi : i < n <;> simp [hi]
    · rw [if_neg e, if_neg (fun h : j = i => e h.symm)]
  rw [e] at this
  exact this
theorem IsP.kept (h : IsP w b n p) {row : Option Nat} (hg : w.grownBy w' row) (hne : row ≠ some b) : IsP w' b n p := whole_grownM h hg hne
theorem IsP.below (h : IsP w b n p) (hb : Below w.heap.size w w') : IsP w' b n p := whole_belowM h hb
theorem grown_refl (w : World) (row : Option Nat) : w.grownBy w row := ⟨rfl, rfl, rfl, Nat.le_refl _, fun _ _ _ => rfl⟩
theorem grown_setL {W w : World} {g : Nat} (h : W.grownBy w (some g)) (i : Nat) (u : Value) : W.grownBy (w.setCell ⟨g, i, none⟩ u) (some g) :=
  ⟨h.1, h.2, h.3, by simpa using h.4, fun j hj hne => (Below.heap_setCell _ _ _ _ (fun e => hne (by rw [e]))).trans (h.5 j hj hne)⟩
theorem grown_transL {W w w' : World} {g : Nat} (h : W.grownBy w (some g)) (k : w.grownBy w' (some g)) : W.grownBy w' (some g) :=
  ⟨k.1.trans h.1, k.2.trans h.2, k.3.trans h.3, Nat.le_trans h.4 k.4, fun j hj hne => (k.5 j (Nat.lt_of_lt_of_le hj h.4) hne).trans (h.5 j hj hne)⟩
end

set_option maxRecDepth 100000 in
set_option maxHeartbeats 4000000 in
theorem root_any (n pb cap : Nat) (hn : n ≤ 1000000) (hcap : n ≤ cap) (p r d : Nat → Nat) (hu : UF n p r d) (i : Nat) (hi : i < n) (W : World) (hp : IsP W pb n p) :
    Calls Try.prog 28 #[.slice (some ⟨pb, 0, none⟩) n cap, .int .i64 i] W fun e w' => e = .returned (.int .i64 (r i)) ∧ ∃ p', UF n p' r d ∧ IsP w' pb n p' ∧ W.grownBy w' (some pb) := by
  have HP := Lib.hid hp
  have HU := Lib.hid hu
  clear hp hu
  go_enter Try.func28, Try.ntmps28
  go_wp2_with fail
  go_loopw [1] (fun v wr => ∃ (j : Nat) (q : Nat → Nat), j < n ∧ v = .int .i64 j ∧ Hid (r j = r i ∧ UF n q r d ∧ IsP wr pb n q ∧ W.grownBy wr (some pb))) (fun v _ => d (intOf v).toNat)
  case atStart => exact ⟨i, p, hi, rfl, Lib.hid ⟨rfl, HU.out, HP.out, grown_refl _ _⟩⟩
  case round =>
    obtain ⟨j, q, hj, rfl, HR⟩ := hrel
    have hb0 : (0 : Int) ≤ j := by omega
    have hb1 : (j : Int) < n := by omega
    obtain ⟨a, Ha⟩ : ∃ a, Hid (a = q j) := ⟨_, Lib.hid rfl⟩
    have ca : wr.cell? ⟨pb, j, none⟩ = some (.int .i64 a) := by rw [Ha.out]; exact HR.out.2.2.1.cell hj
    obtain ⟨b, hb⟩ : ∃ b, ((a : Int) == (j : Int)) = b := ⟨_, rfl⟩
    have hnb : ((a : Int) != (j : Int)) = !b := by rw [bne, hb]
    cases b with
    | true =>
      have haj : a = j := by have := eq_of_beq hb; omega
      have HE : Hid (j = r i) := Lib.hid (by rw [← HR.out.1]; exact (HR.out.2.1.own j hj (by rw [← Ha.out]; exact haj)).symm)
      clear haj
      go_wp2_with fail
      go_ret
      exact ⟨by rw [← HE.out]; rfl, q, HR.out.2.1, HR.out.2.2.1, HR.out.2.2.2⟩
    | false =>
      have Hne : Hid (q j ≠ j) := Lib.hid (by
        rw [← Ha.out]
        intro e
        rw [e] at hb
        simp at hb)
      have han : a < n := by rw [Ha.out]; exact HR.out.2.1.lt j hj
      have ha0 : (0 : Int) ≤ a := by omega
      have ha1 : (a : Int) < n := by omega
      obtain ⟨c, Hc⟩ : ∃ c, Hid (c = q a) := ⟨_, Lib.hid rfl⟩
      have cc : wr.cell? ⟨pb, a, none⟩ = some (.int .i64 c) := by rw [Hc.out]; exact HR.out.2.2.1.cell han
      have fz := HR.out.2.2.1.frozen j
      have HU2 : Hid (UF n (upd q j c) r d) := Lib.hid (by rw [Hc.out, Ha.out]; exact HR.out.2.1.half hj Hne.out)
      have HP2 := Lib.hid (HR.out.2.2.1.set j c)
      have HG2 := Lib.hid (grown_setL HR.out.2.2.2 j (.int .i64 c))
      have hcn : c < n := by rw [Hc.out]; exact HR.out.2.1.lt a han
      have Hr : Hid (r c = r i) := Lib.hid (by rw [Hc.out, HR.out.2.1.step a han, Ha.out, HR.out.2.1.step j hj]; exact HR.out.1)
      have Hd : Hid (d c < d j) := Lib.hid (by
        have h1 := HR.out.2.1.rank j hj Hne.out
        rw [← Ha.out] at h1
        by_cases e : c = a
        · rw [e]; exact h1
        · have h2 := HR.out.2.1.rank a han (by rw [← Hc.out]; exact e)
          rw [← Hc.out] at h2
          omega)
      go_wp2_with fail
      go_round
      case rel => exact ⟨c, upd q j c, hcn, rfl, Lib.hid ⟨Hr.out, HU2.out, HP2.out, HG2.out⟩⟩
      case measure => simpa [intOf] using Hd.out

set_option maxRecDepth 100000 in
set_option maxHeartbeats 4000000 in
theorem join_any (n pb cap : Nat) (hn : n ≤ 1000000) (hcap : n ≤ cap) (p r d : Nat → Nat) (hu : UF n p r d) (i j : Nat) (hi : i < n) (hj : j < n) (W : World) (hp : IsP W pb n p) :
    Calls Try.prog 26 #[.slice (some ⟨pb, 0, none⟩) n cap, .int .i64 i, .int .i64 j] W fun e w' => e = .returned (.tuple #[]) ∧ ∃ p', UF n p' r d ∧ IsP w' pb n (upd p' (r i) (r j)) ∧ W.grownBy w' (some pb) := by
  have HC := Lib.hid (fun (q : Nat → Nat) (hq : UF n q r d) (x : Nat) (hx : x < n) (w : World) (hw : IsP w pb n q) => root_any n pb cap hn hcap q r d hq x hx w hw)
  have HP := Lib.hid hp
  have HU := Lib.hid hu
  clear hp hu
  go_enter Try.func26, Try.ntmps26
  go_wp2_with fail
  refine (HC.out p HU.out i hi W HP.out).mono ?_
  rintro e w1 ⟨rfl, q1, u1, p1, g1⟩
  have HU1 := Lib.hid u1
  have HP1 := Lib.hid p1
  have HG1 := Lib.hid g1
  clear u1 p1 g1
  go_wp2_with fail
  refine (HC.out q1 HU1.out j hj w1 HP1.out).mono ?_
  rintro e w2 ⟨rfl, q2, u2, p2, g2⟩
  have HU2 := Lib.hid u2
  have HP2 := Lib.hid p2
  have HG2 := Lib.hid (grown_transL HG1.out g2)
  clear u2 p2 g2
  obtain ⟨a, Ha⟩ : ∃ a, Hid (a = r i) := ⟨_, Lib.hid rfl⟩
  obtain ⟨b, Hb⟩ : ∃ a, Hid (a = r j) := ⟨_, Lib.hid rfl⟩
  rw [← Ha.out, ← Hb.out]
  have han : a < n := by rw [Ha.out]; exact HU2.out.rlt i hi
  have ha0 : (0 : Int) ≤ a := by omega
  have ha1 : (a : Int) < n := by omega
  have ca : w2.cell? ⟨pb, a, none⟩ = some (.int .i64 (q2 a)) := HP2.out.cell han
  have fz := HP2.out.frozen a
  have HP3 := Lib.hid (HP2.out.set a b)
  have HG3 := Lib.hid (grown_setL HG2.out a (.int .i64 b))
  go_wp2_with fail
  refine bodyPost_end (results_none rfl _ _ _) rfl ?_
  exact ⟨rfl, q2, HU2.out, by rw [← Ha.out, ← Hb.out]; exact HP3.out, HG3.out⟩
end Go.Proofs.Ytolnpimnoajcaaa
