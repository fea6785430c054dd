/- The plain mathematics of digests: what a digest is; what differs has different digests. Nothing of the program is imported. -/
import Derived.Test.YtfnbdjjobndgfaaDoorDigMath
namespace Go.Proofs.YtfnbdjjobndgfaaDoor.Dig

/-- A byte that is a hexadecimal digit. -/
def isHex (c : UInt8) : Bool := decide (48 ≤ c.toNat ∧ c.toNat ≤ 57 ∨ 97 ≤ c.toNat ∧ c.toNat ≤ 102)
def isB (l : List UInt8) : Bool := l.all isHex && decide (l.length = 16)
theorem isB_false_at (l : List UInt8) (k : Nat) (h : k < l.length) (hc : isHex l[k] = false) : isB l = false := by
  unfold isB
  rw [Bool.and_eq_false_iff]
  refine Or.inl ?_
  rw [List.all_eq_false]
  exact ⟨l[k], List.getElem_mem h, by simp [hc]⟩
theorem isB_all (l : List UInt8) (h : ∀ j, (hj : j < l.length) → isHex l[j] = true) : isB l = decide (l.length = 16) := by
  unfold isB
  have : l.all isHex = true := by
    rw [List.all_eq_true]
    intro c hc
    obtain ⟨j, hj, rfl⟩ := List.getElem_of_mem hc
    exact h j hj
  rw [this]; rfl
theorem isHex_digit (n : Nat) (h : n < 16) : isHex (hexDigit n) = true := by
  have hc : n = 0 ∨ n = 1 ∨ n = 2 ∨ n = 3 ∨ n = 4 ∨ n = 5 ∨ n = 6 ∨ n = 7 ∨ n = 8 ∨ n = 9 ∨ n = 10 ∨ n = 11 ∨ n = 12 ∨ n = 13 ∨ n = 14 ∨ n = 15 := by omega
  rcases hc with rfl | rfl | rfl | rfl | rfl | rfl | rfl | rfl | rfl | rfl | rfl | rfl | rfl | rfl | rfl | rfl <;> decide
theorem isB_hex (x : Nat) : isB (hex x) = true := by
  unfold isB
  rw [hex_length]
  simp only [decide_true, Bool.and_true]
  rw [List.all_eq_true]
  intro c hc
  obtain ⟨i, _, rfl⟩ := List.mem_map.1 hc
  exact isHex_digit _ (Nat.mod_lt _ (by decide))
theorem hexDigit_inj {n m : Nat} (hn : n < 16) (hm : m < 16) (h : hexDigit n = hexDigit m) : n = m := by
  have key : ∀ a : Fin 16, ∀ b : Fin 16, hexDigit a.val = hexDigit b.val → a = b := by decide
  exact congrArg Fin.val (key ⟨n, hn⟩ ⟨m, hm⟩ h)
/-- Numbers of 64 bits with the same digits are equal. -/
theorem hex_inj {x y : Nat} (hx : x < 18446744073709551616) (hy : y < 18446744073709551616) (h : hex x = hex y) : x = y := by
  have key : ∀ k, k ≤ 16 → x / 16 ^ (16 - k) = y / 16 ^ (16 - k) := by
    intro k
    induction k with
    | zero =>
      intro _
      rw [Nat.div_eq_of_lt (Nat.lt_of_lt_of_le hx (by decide)), Nat.div_eq_of_lt (Nat.lt_of_lt_of_le hy (by decide))]
    | succ k ih =>
      intro hk
      have ih := ih (by omega)
      have hd : hexDigit (x / 16 ^ (15 - k) % 16) = hexDigit (y / 16 ^ (15 - k) % 16) := by
        have := congrArg (fun l => l.getD k 0) h
        simpa [hex, List.getD_eq_getElem?_getD, List.getElem?_map, List.getElem?_range (show k < 16 by omega)] using this
      have hd := hexDigit_inj (Nat.mod_lt _ (by decide)) (Nat.mod_lt _ (by decide)) hd
      have e : 16 - (k + 1) = 15 - k := by omega
      have e2 : 16 - k = (15 - k) + 1 := by omega
      rw [e2, Nat.pow_succ, ← Nat.div_div_eq_div_mul, ← Nat.div_div_eq_div_mul] at ih
      rw [e]
      omega
  have := key 16 (Nat.le_refl _)
  simpa using this
theorem state_inj (l m : List UInt8) (k : Nat) : ∀ n, state l k < 18446744073709551616 → state m k < 18446744073709551616 → (∀ j, k ≤ j → j < k + n → blk l (j * 8) = blk m (j * 8)) → state l (k + n) = state m (k + n) → state l k = state m k
  | 0, _, _, _, h => h
  | n + 1, h1, h2, hb, h => by
    have hl1 : state l (k + n) < 18446744073709551616 := by
      cases hkn : k + n with
      | zero => rw [show k = 0 by omega] at h1; exact h1
      | succ i => exact mixN_lt _
    have hl2 : state m (k + n) < 18446744073709551616 := by
      cases hkn : k + n with
      | zero => rw [show k = 0 by omega] at h2; exact h2
      | succ i => exact mixN_lt _
    have e : mixN (state l (k + n) ^^^ num (blk l ((k + n) * 8))) = mixN (state m (k + n) ^^^ num (blk m ((k + n) * 8))) := h
    have e := mixN_inj (xor_lt hl1 (num_blk_lt _ _)) (xor_lt hl2 (num_blk_lt _ _)) e
    rw [hb (k + n) (by omega) (by omega)] at e
    have e : state l (k + n) = state m (k + n) := by
      have := congrArg (· ^^^ num (blk m ((k + n) * 8))) e
      simpa [Nat.xor_assoc] using this
    exact state_inj l m k n h1 h2 (fun j hj hj2 => hb j hj (by omega)) e

end Go.Proofs.YtfnbdjjobndgfaaDoor.Dig
