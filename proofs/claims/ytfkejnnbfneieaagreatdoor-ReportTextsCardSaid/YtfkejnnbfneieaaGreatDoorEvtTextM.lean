/- The text of an event: values. -/
import Derived.Test.YtfkejnnbfneieaaGreatDoorWords
import Derived.Test.YtfkejnnbfneieaaGreatDoorEvtValid
import Derived.Lib.Join
import Derived.Lib.ItoaLen
namespace Go.Proofs.YtfkejnnbfneieaaGreatDoor
open Go.RowKit
open Evt

namespace Evt
/-- A number's digits. -/
def digs (z : Int) : List UInt8 := Lib.decDigits z.toNat
def wordOf (z : Int) : List UInt8 := wordsL.getD z.toNat []
/-- The rows of an event's text. -/
def rowsE (e : Ev) : List (List UInt8) :=
  [wordOf e.op, digs e.day, e.part.data.toList] ++
    (if e.op = 1 then [e.kind.data.toList] else if e.op = 2 then [e.into.data.toList, e.slot.data.toList]
     else if e.op = 4 then [digs e.k0, digs e.k1, digs e.c0, digs e.c1, digs e.d0, digs e.d1]
     else if e.op = 6 then [e.key.data.toList, Lex.quote e.value.data.toList] else [])
def textE (e : Ev) : List UInt8 := Lib.join (rowsE e) [32]
theorem valid_op {e : Ev} (h : valid e = true) : 1 ≤ e.op ∧ e.op ≤ 7 ∧ 0 ≤ e.day ∧ e.day ≤ 40000 ∧ nm e.part = true ∧ okE e = true := by
  unfold valid at h
  simp only [Bool.and_eq_true, Bool.not_eq_true', decide_eq_false_iff_not] at h
  exact ⟨by omega, by omega, by omega, by omega, h.2.2.2.2.1, h.2.2.2.2.2.1⟩
theorem wordOf_at {z : Int} (h1 : 1 ≤ z) (h2 : z ≤ 7) : wordsL[z.toNat]? = some (wordOf z) := by
  have h : z.toNat < wordsL.length := by show z.toNat < 8; omega
  unfold wordOf
  rw [List.getD_eq_getElem?_getD, List.getElem?_eq_getElem h]
  rfl
end Evt
end Go.Proofs.YtfkejnnbfneieaaGreatDoor

/- The text of a valid event is short; its rows by operation. -/
namespace Go.Proofs.YtfkejnnbfneieaaGreatDoor
open Go.RowKit
open Evt

namespace Evt
theorem nm_len {s : ByteArray} (h : nm s = true) : s.data.toList.length ≤ 24 := by
  unfold nm Lex.nameB at h
  simp only [Bool.and_eq_true, decide_eq_true_eq] at h
  exact h.1.1
theorem digs_len (z : Int) (h : z ≤ 1000000) : (digs z).length ≤ 20 := by
  unfold digs
  rw [Lib.decDigits_length]
  exact Lib.nDigits_le20 _ (by omega)
theorem encC_len (c : UInt8) : (Lex.encC c).length ≤ 2 := by
  unfold Lex.encC
  split
  · simp
  · split
    · simp
    · split <;> simp
theorem enc_len (t : List UInt8) : (Lex.enc t).length ≤ 2 * t.length := by
  induction t with
  | nil => simp [Lex.enc]
  | cons c t ih =>
    rw [Lex.enc_cons, List.length_append, List.length_cons]
    have := encC_len c
    omega
theorem quote_len (t : List UInt8) : (Lex.quote t).length ≤ 2 * t.length + 2 := by
  unfold Lex.quote
  rw [List.length_cons, List.length_append]
  have := enc_len t
  simp
  omega
theorem word_len {z : Int} (h1 : 1 ≤ z) (h2 : z ≤ 7) : (wordOf z).length ≤ 8 := by
  have : z = 1 ∨ z = 2 ∨ z = 3 ∨ z = 4 ∨ z = 5 ∨ z = 6 ∨ z = 7 := by omega
  rcases this with rfl | rfl | rfl | rfl | rfl | rfl | rfl <;> decide
theorem join_le (x : List UInt8) (r : List (List UInt8)) : (Lib.join (x :: r) [32]).length ≤ r.length + Lib.lens (x :: r) := by
  rw [Lib.join_length]; simp
theorem use_iff {a b : Int} (h : isUse a b = true) : 0 ≤ a ∧ a ≤ b ∧ b ≤ 1000000 := by
  unfold isUse at h
  simpa only [Bool.and_eq_true, decide_eq_true_eq] using h
theorem ok4 {e : Ev} (h : valid e = true) (h4 : e.op = 4) : (0 ≤ e.k0 ∧ e.k0 ≤ e.k1 ∧ e.k1 ≤ 1000000) ∧ (0 ≤ e.c0 ∧ e.c0 ≤ e.c1 ∧ e.c1 ≤ 1000000) ∧ (0 ≤ e.d0 ∧ e.d0 ≤ e.d1 ∧ e.d1 ≤ 1000000) := by
  have h := (valid_op h).2.2.2.2.2
  unfold okE at h
  rw [if_neg (by omega), if_neg (by omega), if_pos h4, Bool.and_eq_true, Bool.and_eq_true] at h
  exact ⟨use_iff h.1, use_iff h.2.1, use_iff h.2.2⟩
theorem ok6 {e : Ev} (h : valid e = true) (h6 : e.op = 6) : nm e.key = true ∧ e.value.data.toList ≠ [] ∧ e.value.size ≤ 200 := by
  have h := (valid_op h).2.2.2.2.2
  unfold okE at h
  rw [if_neg (by omega), if_neg (by omega), if_neg (by omega), if_pos h6, Bool.and_eq_true, Bool.and_eq_true, decide_eq_true_eq] at h
  refine ⟨h.1, ?_, by omega⟩
  have := h.2.1
  rw [ByteArray.toList_eq] at this
  simpa using this
theorem ok1 {e : Ev} (h : valid e = true) (h1 : e.op = 1) : nm e.kind = true := by
  have h := (valid_op h).2.2.2.2.2
  unfold okE at h
  rwa [if_pos h1] at h
theorem ok2 {e : Ev} (h : valid e = true) (h2 : e.op = 2) : nm e.into = true ∧ nm e.slot = true := by
  have h := (valid_op h).2.2.2.2.2
  unfold okE at h
  rw [if_neg (by omega), if_pos h2, Bool.and_eq_true, Bool.and_eq_true] at h
  exact ⟨h.1, h.2.2⟩
theorem textE_len {e : Ev} (h : valid e = true) : (textE e).length ≤ 1000 := by
  obtain ⟨o1, o2, d1, d2, hp, -⟩ := valid_op h
  have hw := word_len o1 o2
  have hd := digs_len e.day (by omega)
  have hpl := nm_len hp
  unfold textE rowsE
  by_cases h1 : e.op = 1
  · rw [if_pos h1]
    have hk := nm_len (ok1 h h1)
    refine Nat.le_trans (join_le _ _) ?_
    simp [Lib.lens] at *
    omega
  by_cases h2 : e.op = 2
  · rw [if_neg h1, if_pos h2]
    have hk := nm_len (ok2 h h2).1
    have hk2 := nm_len (ok2 h h2).2
    refine Nat.le_trans (join_le _ _) ?_
    simp [Lib.lens] at *
    omega
  by_cases h4 : e.op = 4
  · rw [if_neg h1, if_neg h2, if_pos h4]
    obtain ⟨a, b, c⟩ := ok4 h h4
    have q1 := digs_len e.k0 (by omega)
    have q2 := digs_len e.k1 (by omega)
    have q3 := digs_len e.c0 (by omega)
    have q4 := digs_len e.c1 (by omega)
    have q5 := digs_len e.d0 (by omega)
    have q6 := digs_len e.d1 (by omega)
    refine Nat.le_trans (join_le _ _) ?_
    simp [Lib.lens] at *
    omega
  by_cases h6 : e.op = 6
  · rw [if_neg h1, if_neg h2, if_neg h4, if_pos h6]
    obtain ⟨a, b, c⟩ := ok6 h h6
    have q1 := nm_len a
    have q2 := quote_len e.value.data.toList
    have q3 : e.value.data.toList.length = e.value.size := rfl
    rw [q3] at q2
    obtain ⟨q, hq⟩ : ∃ q, q = Lex.quote e.value.data.toList := ⟨_, rfl⟩
    rw [← hq] at q2 ⊢
    refine Nat.le_trans (join_le _ _) ?_
    simp [Lib.lens] at *
    omega
  · rw [if_neg h1, if_neg h2, if_neg h4, if_neg h6]
    refine Nat.le_trans (join_le _ _) ?_
    simp [Lib.lens] at *
    omega
end Evt
namespace Evt
def NoUse (e : Ev) : Prop := e.k0 = 0 ∧ e.k1 = 0 ∧ e.c0 = 0 ∧ e.c1 = 0 ∧ e.d0 = 0 ∧ e.d1 = 0
instance (e : Ev) : Decidable (NoUse e) := by unfold NoUse; infer_instance
theorem rest_iff (e : Ev) : restOf e = zero ↔ (e.op = 1 ∨ e.kind = emp) ∧ (e.op = 2 ∨ (e.into = emp ∧ e.slot = emp)) ∧ (e.op = 6 ∨ (e.key = emp ∧ e.value = emp)) ∧ (e.op = 4 ∨ NoUse e) := by
  obtain ⟨op, day, part, kind, into, slot, key, value, k0, k1, c0, c1, d0, d1⟩ := e
  unfold restOf zero NoUse
  dsimp only
  by_cases h1 : op = 1
  · subst h1; simp [emp, and_assoc]
  by_cases h2 : op = 2
  · subst h2; simp [emp, and_assoc]
  by_cases h4 : op = 4
  · subst h4; simp [emp, and_assoc]
  by_cases h6 : op = 6
  · subst h6; simp [emp, and_assoc]
  simp [emp, h1, h2, h4, h6, and_assoc]
theorem ok_iff (e : Ev) : okE e = true ↔ (e.op = 1 → nm e.kind = true) ∧ (e.op = 2 → nm e.into = true ∧ (e.into.toList != e.part.toList) = true ∧ nm e.slot = true) ∧
    (e.op = 4 → (isUse e.k0 e.k1 = true ∧ isUse e.c0 e.c1 = true ∧ isUse e.d0 e.d1 = true)) ∧ (e.op = 6 → nm e.key = true ∧ (!e.value.toList.isEmpty && decide ((e.value.size : Int) ≤ 200)) = true) := by
  unfold okE
  by_cases h1 : e.op = 1
  · simp [h1]
  by_cases h2 : e.op = 2
  · simp only [h2]; simp
  by_cases h4 : e.op = 4
  · simp [h4]
  by_cases h6 : e.op = 6
  · simp [h6]
  simp [h1, h2, h4, h6]
theorem valid_iff (e : Ev) : valid e = true ↔ (1 ≤ e.op ∧ e.op ≤ 7) ∧ (0 ≤ e.day ∧ e.day ≤ 40000) ∧ nm e.part = true ∧ okE e = true ∧ restOf e = zero := by
  unfold valid
  simp only [Bool.and_eq_true, Bool.not_eq_true', decide_eq_false_iff_not, evEq_iff]
  constructor
  · rintro ⟨h1, h2, h3, h4, h5, h6, h7⟩
    exact ⟨⟨by omega, by omega⟩, ⟨by omega, by omega⟩, h5, h6, h7⟩
  · rintro ⟨⟨h1, h2⟩, ⟨h3, h4⟩, h5, h6, h7⟩
    exact ⟨by omega, by omega, by omega, by omega, h5, h6, h7⟩
theorem nm_emp : nm emp = false := by decide
theorem no_nm {s : ByteArray} (h : nm s = true) (he : s = emp) : False := by
  rw [he] at h
  exact absurd h (by decide)
theorem i64_small {z : Int} (h : 0 ≤ z ∧ z ≤ 1000000) : I64 z := by
  unfold I64
  have h1 : IntKind.i64.min = -9223372036854775808 := by decide
  have h2 : IntKind.i64.max = 9223372036854775807 := by decide
  simp [Lit.wf, h1, h2]
  omega
theorem st_nm {s : ByteArray} (h : nm s = true) : St s := by
  have h1 := nm_len (s := s) h
  have e : s.data.toList.length = s.size := rfl
  unfold St
  omega
theorem sz_valid {x : Ev} (h : valid x = true) : Sz x := by
  obtain ⟨ho, hd, hp, hk, hr⟩ := (valid_iff x).1 h
  obtain ⟨k1, k2, k4, k6⟩ := (ok_iff x).1 hk
  obtain ⟨r1, r2, r6, r4⟩ := (rest_iff x).1 hr
  have hi : ∀ z : Int, 0 ≤ z ∧ z ≤ 1000000 → I64 z := fun z hz => i64_small hz
  have hu : ∀ a b : Int, isUse a b = true → I64 a ∧ I64 b := fun a b h => by
    unfold isUse at h
    simp only [Bool.and_eq_true, decide_eq_true_eq] at h
    exact ⟨hi a (by omega), hi b (by omega)⟩
  have he : ∀ s : ByteArray, s = emp → St s := fun s e => by rw [e]; exact st_emp
  have hz : ∀ z : Int, z = 0 → I64 z := fun z e => by rw [e]; exact i64_zero
  have huse : (I64 x.k0 ∧ I64 x.k1) ∧ (I64 x.c0 ∧ I64 x.c1) ∧ (I64 x.d0 ∧ I64 x.d1) := by
    rcases r4 with q | ⟨q1, q2, q3, q4, q5, q6⟩
    · exact ⟨hu _ _ (k4 q).1, hu _ _ (k4 q).2.1, hu _ _ (k4 q).2.2⟩
    · exact ⟨⟨hz _ q1, hz _ q2⟩, ⟨hz _ q3, hz _ q4⟩, ⟨hz _ q5, hz _ q6⟩⟩
  have hkey : St x.key ∧ St x.value := by
    rcases r6 with q | q
    · refine ⟨st_nm (k6 q).1, ?_⟩
      have := (k6 q).2
      simp only [Bool.and_eq_true, decide_eq_true_eq] at this
      unfold St
      omega
    · exact ⟨he _ q.1, he _ q.2⟩
  have hin : St x.into ∧ St x.slot := by
    rcases r2 with q | q
    · exact ⟨st_nm (k2 q).1, st_nm (k2 q).2.2⟩
    · exact ⟨he _ q.1, he _ q.2⟩
  exact ⟨hi _ (by omega), hi _ (by omega), st_nm hp, r1.elim (fun q => st_nm (k1 q)) (he _), hin.1, hin.2, hkey.1, hkey.2, huse.1.1, huse.1.2, huse.2.1.1, huse.2.1.2, huse.2.2.1, huse.2.2.2⟩
end Evt
end Go.Proofs.YtfkejnnbfneieaaGreatDoor
