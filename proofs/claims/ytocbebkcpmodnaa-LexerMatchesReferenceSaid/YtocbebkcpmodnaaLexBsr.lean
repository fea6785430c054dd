/- strings.byteStringReplacer.Replace over the table that Quote builds. -/
import Derived.Test.YtocbebkcpmodnaaLexRd
import Derived.Test.YtocbebkcpmodnaaShelf
import Derived.Laws.CopyOwn
import Derived.Laws.IdiomStrings
import Derived.Deep.RegionLaw
namespace Go.Proofs.Ytocbebkcpmodnaa
open Go.RowKit

namespace Lex
/-- What a byte is replaced by, where it is. -/
def repB (c : Nat) : List UInt8 := if c = 92 then [92, 92] else if c = 34 then [92, 34] else if c = 10 then [92, 110] else []
theorem encC_rep (c : UInt8) : encC c = if repB c.toNat = [] then [c] else repB c.toNat := by
  unfold encC repB
  by_cases h1 : c.toNat = 92
  · simp [h1]
  · by_cases h2 : c.toNat = 34
    · simp [h2]
    · by_cases h3 : c.toNat = 10
      · simp [h3]
      · simp [h1, h2, h3]
theorem rep_two (c : Nat) : repB c = [] ∨ ∃ q, repB c = [92, q] := by
  unfold repB
  split
  · exact Or.inr ⟨_, rfl⟩
  · split
    · exact Or.inr ⟨_, rfl⟩
    · split
      · exact Or.inr ⟨_, rfl⟩
      · exact Or.inl rfl
theorem enc_snoc (t : List UInt8) (c : UInt8) : enc (t ++ [c]) = enc t ++ encC c := by unfold enc; simp
theorem enc_nil : enc [] = [] := rfl
theorem encC_len (c : UInt8) : 1 ≤ (encC c).length ∧ (encC c).length ≤ 2 := by
  unfold encC
  split
  · simp
  · split
    · simp
    · split <;> simp
theorem enc_len (t : List UInt8) : t.length ≤ (enc t).length ∧ (enc t).length ≤ 2 * t.length := by
  induction t with
  | nil => simp [enc]
  | cons c t ih => rw [enc_cons, List.length_append, List.length_cons]; have := encC_len c; omega
theorem enc_take {S : ByteArray} {k : Nat} (h : k < S.size) : enc (S.data.toList.take (k + 1)) = enc (S.data.toList.take k) ++ encC S[k] := by
  rw [List.take_add_one, List.getElem?_eq_getElem (show k < S.data.toList.length from h)]
  show enc (_ ++ [S[k]]) = _
  rw [enc_snoc]
theorem enc_count (t : List UInt8) : (enc t).length = t.length + Lib.countByte t 10 + Lib.countByte t 34 + Lib.countByte t 92 := by
  induction t with
  | nil => rfl
  | cons c t ih =>
    rw [enc_cons, List.length_append, ih, List.length_cons]
    have hlen : ∀ n : UInt8, Lib.countByte (c :: t) n = Lib.countByte t n + if c == n then 1 else 0 := fun n => List.count_cons
    rw [hlen, hlen, hlen]
    have hne : ∀ n : UInt8, c.toNat ≠ n.toNat → (c == n) = false := fun n h => by
      rw [beq_eq_false_iff_ne]; intro e; exact h (congrArg UInt8.toNat e)
    by_cases h1 : c.toNat = 92
    · have hc : c = 92 := UInt8.toNat_inj.1 h1
      subst hc
      have e1 : (encC 92).length = 2 := rfl
      have e2 : ((92 : UInt8) == 10) = false := rfl
      have e3 : ((92 : UInt8) == 34) = false := rfl
      have e4 : ((92 : UInt8) == 92) = true := rfl
      rw [e1, e2, e3, e4]; simp only [Bool.false_eq_true, if_false, if_true]; omega
    · by_cases h2 : c.toNat = 34
      · have hc : c = 34 := UInt8.toNat_inj.1 h2
        subst hc
        have e1 : (encC 34).length = 2 := rfl
        have e2 : ((34 : UInt8) == 10) = false := rfl
        have e3 : ((34 : UInt8) == 34) = true := rfl
        have e4 : ((34 : UInt8) == 92) = false := rfl
        rw [e1, e2, e3, e4]; simp only [Bool.false_eq_true, if_false, if_true]; omega
      · by_cases h3 : c.toNat = 10
        · have hc : c = 10 := UInt8.toNat_inj.1 h3
          subst hc
          have e1 : (encC 10).length = 2 := rfl
          have e2 : ((10 : UInt8) == 10) = true := rfl
          have e3 : ((10 : UInt8) == 34) = false := rfl
          have e4 : ((10 : UInt8) == 92) = false := rfl
          rw [e1, e2, e3, e4]; simp only [Bool.false_eq_true, if_false, if_true]; omega
        · have e1 : (encC c).length = 1 := by unfold encC; rw [if_neg h1, if_neg h2, if_neg h3]; rfl
          rw [e1, hne 10 h3, hne 34 h2, hne 92 h1]; simp only [Bool.false_eq_true, if_false]; omega
theorem enc_same (t : List UInt8) (h : (enc t).length = t.length) : enc t = t := by
  induction t with
  | nil => rfl
  | cons c t ih =>
    rw [enc_cons, List.length_append, List.length_cons] at h
    have h1 := encC_len c
    have h2 := enc_len t
    have h3 : (encC c).length = 1 := by omega
    rw [enc_cons, ih (by omega)]
    have : encC c = [c] := by
      unfold encC at h3 ⊢
      split
      · rename_i h; rw [if_pos h] at h3; simp at h3
      · rename_i h; rw [if_neg h] at h3
        split
        · rename_i g; rw [if_pos g] at h3; simp at h3
        · rename_i g; rw [if_neg g] at h3
          split
          · rename_i f; rw [if_pos f] at h3; simp at h3
          · rfl
    rw [this]; rfl
end Lex

/-- The table in memory. -/
structure Tab (W : World) (T : Nat) (cs : Array Value) (X : Nat) : Prop where
  size : cs.size = 257
  row : Whole W T 106 cs
  list : cs[256]? = some (.slice (some ⟨X, 0, none⟩) 3 3)
  texts : Whole W X 9 #[.string ⟨#[10]⟩, .string ⟨#[34]⟩, .string ⟨#[92]⟩]
  no : ∀ c, c < 256 → Lex.repB c = [] → cs[c]? = some (.slice none 0 0)
  yes : ∀ c q, c < 256 → Lex.repB c = [92, q] → ∃ b cap, cs[c]? = some (.slice (some ⟨b, 0, none⟩) 2 cap) ∧ b < W.heap.size ∧ W.cell? ⟨b, 0, none⟩ = some (.int .u8 92) ∧ W.cell? ⟨b, 1, none⟩ = some (.int .u8 q.toNat)
theorem cell_below {W w : World} (h : Below W.heap.size W w) {b : Nat} (hb : b < W.heap.size) (i : Nat) : w.cell? ⟨b, i, none⟩ = W.cell? ⟨b, i, none⟩ := by
  simp only [World.cell?]; rw [h.block b hb]
theorem Tab.below {W w : World} {T X : Nat} {cs : Array Value} (h : Tab W T cs X) (hb : Below W.heap.size W w) : Tab w T cs X :=
  ⟨h.size, (hb.block _ h.row.lt).trans h.row, h.list, (hb.block _ h.texts.lt).trans h.texts, h.no, fun c q hc hq => by
    obtain ⟨b, cap, h1, h2, h3, h4⟩ := h.yes c q hc hq
    exact ⟨b, cap, h1, Nat.lt_of_lt_of_le h2 hb.size, (cell_below hb h2 0).trans h3, (cell_below hb h2 1).trans h4⟩⟩

end Go.Proofs.Ytocbebkcpmodnaa
