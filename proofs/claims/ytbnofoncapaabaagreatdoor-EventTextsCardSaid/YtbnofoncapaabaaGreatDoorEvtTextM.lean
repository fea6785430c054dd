/- The text of an event: values. -/
import Derived.Test.YtbnofoncapaabaaGreatDoorWords
import Derived.Test.YtbnofoncapaabaaGreatDoorEvtValid
import Derived.Lib.Join
import Derived.Lib.ItoaLen
namespace Go.Proofs.YtbnofoncapaabaaGreatDoor
open Go.RowKit
open Evt

namespace Evt
/-- A number's digits. -/
def digs (z : Int) : List UInt8 := Lib.decDigits z.toNat
def wordOf (z : Int) : List UInt8 := wordsL.getD z.toNat []
/-- The rows of an event's text. -/
def rowsE (e : Ev) : List (List UInt8) :=
  [wordOf e.op, digs e.day, e.part.data.toList] ++
    (if e.op = 1 then [e.kind.data.toList] else if e.op = 2 then [e.into.data.toList, e.slot.data.toList]
     else if e.op = 4 then [digs e.k0, digs e.k1, digs e.c0, digs e.c1, digs e.d0, digs e.d1]
     else if e.op = 6 then [e.key.data.toList, Lex.quote e.value.data.toList] else [])
def textE (e : Ev) : List UInt8 := Lib.join (rowsE e) [32]
theorem valid_op {e : Ev} (h : valid e = true) : 1 ≤ e.op ∧ e.op ≤ 7 ∧ 0 ≤ e.day ∧ e.day ≤ 40000 ∧ nm e.part = true ∧ okE e = true := by
  unfold valid at h
  simp only [Bool.and_eq_true, Bool.not_eq_true', decide_eq_false_iff_not] at h
  exact ⟨by omega, by omega, by omega, by omega, h.2.2.2.2.1, h.2.2.2.2.2.1⟩
theorem wordOf_at {z : Int} (h1 : 1 ≤ z) (h2 : z ≤ 7) : wordsL[z.toNat]? = some (wordOf z) := by
  have h : z.toNat < wordsL.length := by show z.toNat < 8; omega
  unfold wordOf
  rw [List.getD_eq_getElem?_getD, List.getElem?_eq_getElem h]
  rfl
end Evt
end Go.Proofs.YtbnofoncapaabaaGreatDoor

/- The text of a valid event is short; its rows by operation. -/
namespace Go.Proofs.YtbnofoncapaabaaGreatDoor
open Go.RowKit
open Evt

namespace Evt
theorem nm_len {s : ByteArray} (h : nm s = true) : s.data.toList.length ≤ 24 := by
  unfold nm Lex.nameB at h
  simp only [Bool.and_eq_true, decide_eq_true_eq] at h
  exact h.1.1
theorem digs_len (z : Int) (h : z ≤ 1000000) : (digs z).length ≤ 20 := by
  unfold digs
  rw [Lib.decDigits_length]
  exact Lib.nDigits_le20 _ (by omega)
theorem encC_len (c : UInt8) : (Lex.encC c).length ≤ 2 := by
  unfold Lex.encC
  split
  · simp
  · split
    · simp
    · split <;> simp
theorem enc_len (t : List UInt8) : (Lex.enc t).length ≤ 2 * t.length := by
  induction t with
  | nil => simp [Lex.enc]
  | cons c t ih =>
    rw [Lex.enc_cons, List.length_append, List.length_cons]
    have := encC_len c
    omega
theorem quote_len (t : List UInt8) : (Lex.quote t).length ≤ 2 * t.length + 2 := by
  unfold Lex.quote
  rw [List.length_cons, List.length_append]
  have := enc_len t
  simp
  omega
theorem word_len {z : Int} (h1 : 1 ≤ z) (h2 : z ≤ 7) : (wordOf z).length ≤ 8 := by
  have : z = 1 ∨ z = 2 ∨ z = 3 ∨ z = 4 ∨ z = 5 ∨ z = 6 ∨ z = 7 := by omega
  rcases this with rfl | rfl | rfl | rfl | rfl | rfl | rfl <;> decide
theorem join_le (x : List UInt8) (r : List (List UInt8)) : (Lib.join (x :: r) [32]).length ≤ r.length + Lib.lens (x :: r) := by
  rw [Lib.join_length]; simp
theorem use_iff {a b : Int} (h : isUse a b = true) : 0 ≤ a ∧ a ≤ b ∧ b ≤ 1000000 := by
  unfold isUse at h
  simpa only [Bool.and_eq_true, decide_eq_true_eq] using h
theorem ok4 {e : Ev} (h : valid e = true) (h4 : e.op = 4) : (0 ≤ e.k0 ∧ e.k0 ≤ e.k1 ∧ e.k1 ≤ 1000000) ∧ (0 ≤ e.c0 ∧ e.c0 ≤ e.c1 ∧ e.c1 ≤ 1000000) ∧ (0 ≤ e.d0 ∧ e.d0 ≤ e.d1 ∧ e.d1 ≤ 1000000) := by
  have h := (valid_op h).2.2.2.2.2
  unfold okE at h
  rw [if_neg (by omega), if_neg (by omega), if_pos h4, Bool.and_eq_true, Bool.and_eq_true] at h
  exact ⟨use_iff h.1, use_iff h.2.1, use_iff h.2.2⟩
theorem ok6 {e : Ev} (h : valid e = true) (h6 : e.op = 6) : nm e.key = true ∧ e.value.data.toList ≠ [] ∧ e.value.size ≤ 200 := by
  have h := (valid_op h).2.2.2.2.2
  unfold okE at h
  rw [if_neg (by omega), if_neg (by omega), if_neg (by omega), if_pos h6, Bool.and_eq_true, Bool.and_eq_true, decide_eq_true_eq] at h
  refine ⟨h.1, ?_, by omega⟩
  have := h.2.1
  rw [ByteArray.toList_eq] at this
  simpa using this
theorem ok1 {e : Ev} (h : valid e = true) (h1 : e.op = 1) : nm e.kind = true := by
  have h := (valid_op h).2.2.2.2.2
  unfold okE at h
  rwa [if_pos h1] at h
theorem ok2 {e : Ev} (h : valid e = true) (h2 : e.op = 2) : nm e.into = true ∧ nm e.slot = true := by
  have h := (valid_op h).2.2.2.2.2
  unfold okE at h
  rw [if_neg (by omega), if_pos h2, Bool.and_eq_true, Bool.and_eq_true] at h
  exact ⟨h.1, h.2.2⟩
theorem textE_len {e : Ev} (h : valid e = true) : (textE e).length ≤ 1000 := by
  obtain ⟨o1, o2, d1, d2, hp, -⟩ := valid_op h
  have hw := word_len o1 o2
  have hd := digs_len e.day (by omega)
  have hpl := nm_len hp
  unfold textE rowsE
  by_cases h1 : e.op = 1
  · rw [if_pos h1]
    have hk := nm_len (ok1 h h1)
    refine Nat.le_trans (join_le _ _) ?_
    simp [Lib.lens] at *
    omega
  by_cases h2 : e.op = 2
  · rw [if_neg h1, if_pos h2]
    have hk := nm_len (ok2 h h2).1
    have hk2 := nm_len (ok2 h h2).2
    refine Nat.le_trans (join_le _ _) ?_
    simp [Lib.lens] at *
    omega
  by_cases h4 : e.op = 4
  · rw [if_neg h1, if_neg h2, if_pos h4]
    obtain ⟨a, b, c⟩ := ok4 h h4
    have q1 := digs_len e.k0 (by omega)
    have q2 := digs_len e.k1 (by omega)
    have q3 := digs_len e.c0 (by omega)
    have q4 := digs_len e.c1 (by omega)
    have q5 := digs_len e.d0 (by omega)
    have q6 := digs_len e.d1 (by omega)
    refine Nat.le_trans (join_le _ _) ?_
    simp [Lib.lens] at *
    omega
  by_cases h6 : e.op = 6
  · rw [if_neg h1, if_neg h2, if_neg h4, if_pos h6]
    obtain ⟨a, b, c⟩ := ok6 h h6
    have q1 := nm_len a
    have q2 := quote_len e.value.data.toList
    have q3 : e.value.data.toList.length = e.value.size := rfl
    rw [q3] at q2
    obtain ⟨q, hq⟩ : ∃ q, q = Lex.quote e.value.data.toList := ⟨_, rfl⟩
    rw [← hq] at q2 ⊢
    refine Nat.le_trans (join_le _ _) ?_
    simp [Lib.lens] at *
    omega
  · rw [if_neg h1, if_neg h2, if_neg h4, if_neg h6]
    refine Nat.le_trans (join_le _ _) ?_
    simp [Lib.lens] at *
    omega
end Evt
end Go.Proofs.YtbnofoncapaabaaGreatDoor
