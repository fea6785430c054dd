/- The texts of amounts: their digits, their value. -/
import Derived.Lib.Hide
import Derived.Lib.ItoaNum
namespace Go.Proofs.YtijnnfioggjaeaaDoor.Mon
open Go.Lib (decDigits)

/-- A number, taken up byte by byte: those that are no digits are left out. -/
def dstep (a : Nat) (b : UInt8) : Nat := if 48 ≤ b.toNat ∧ b.toNat ≤ 57 then 10 * a + (b.toNat - 48) else a
def digV (bs : List UInt8) : Nat := bs.foldl dstep 0
theorem digV_snoc (bs : List UInt8) (b : UInt8) : digV (bs ++ [b]) = dstep (digV bs) b := by simp [digV]
theorem dig_toNat (k : Nat) (h : k < 10) : (UInt8.ofNat (48 + k)).toNat = 48 + k := by simp; omega
theorem dstep_dig (a k : Nat) (h : k < 10) : dstep a (UInt8.ofNat (48 + k)) = 10 * a + k := by
  unfold dstep
  rw [dig_toNat k h, if_pos (by omega)]
  omega
theorem dec_succ (u : Nat) (h : ¬ u < 10) : decDigits u = decDigits (u / 10) ++ [UInt8.ofNat (48 + u % 10)] := by rw [decDigits, dif_neg h]
theorem digV_dec (u : Nat) : digV (decDigits u) = u := by
  induction u using Nat.strongRecOn with
  | _ u ih =>
    by_cases h : u < 10
    · rw [Lib.decDigits_one h]
      show dstep 0 _ = u
      rw [dstep_dig 0 u h]; omega
    · rw [dec_succ u h, digV_snoc, ih _ (by omega), dstep_dig _ _ (by omega)]; omega
theorem dec_ascii (u : Nat) : ∀ b ∈ decDigits u, b.toNat < 128 := by
  induction u using Nat.strongRecOn with
  | _ u ih =>
    by_cases h : u < 10
    · rw [Lib.decDigits_one h]
      intro b hb
      rw [List.mem_singleton.1 hb, dig_toNat u h]; omega
    · rw [dec_succ u h]
      intro b hb
      rcases List.mem_append.1 hb with h1 | h1
      · exact ih _ (by omega) b h1
      · rw [List.mem_singleton.1 h1, dig_toNat _ (by omega)]; omega
theorem dec_pos (u : Nat) : 1 ≤ (decDigits u).length := by
  by_cases h : u < 10
  · rw [Lib.decDigits_one h]; simp
  · rw [dec_succ u h]; simp
theorem dec_len (k : Nat) : ∀ u : Nat, u < 10 ^ (k + 1) → (decDigits u).length ≤ k + 1 := by
  induction k with
  | zero => intro u h; rw [Lib.decDigits_one (by omega)]; simp
  | succ k ih =>
    intro u h
    by_cases h1 : u < 10
    · rw [Lib.decDigits_one h1]; simp
    · rw [dec_succ u h1, List.length_append]
      have := ih (u / 10) (by rw [Nat.pow_succ] at h; omega)
      simp only [List.length_cons, List.length_nil]
      omega
/-- The last two digits. -/
def cents (k : Nat) : List UInt8 := (decDigits (100 + k)).drop 1
theorem cents_eq (k : Nat) (h : k < 100) : cents k = [UInt8.ofNat (48 + k / 10), UInt8.ofNat (48 + k % 10)] := by
  unfold cents
  rw [dec_succ _ (by omega), dec_succ _ (by omega), Lib.decDigits_one (by omega)]
  have e1 : (100 + k) / 10 % 10 = k / 10 := by omega
  have e2 : (100 + k) % 10 = k % 10 := by omega
  rw [e1, e2]
  rfl
/-- The text of an amount. -/
def mtext (n : Nat) : List UInt8 := decDigits (n / 100) ++ [46] ++ cents (n % 100)
theorem mtext_value (n : Nat) : digV (mtext n) = n := by
  unfold mtext
  rw [cents_eq _ (by omega)]
  have e : ∀ A : List UInt8, ∀ x y : UInt8, A ++ [46] ++ [x, y] = ((A ++ [46]) ++ [x]) ++ [y] := by intros; simp
  rw [e, digV_snoc, digV_snoc, digV_snoc, digV_dec, dstep_dig _ _ (by omega), dstep_dig _ _ (by omega)]
  have e2 : dstep (n / 100) 46 = n / 100 := by unfold dstep; rw [if_neg (by decide)]
  rw [e2]
  omega
theorem mtext_ascii (n : Nat) : ∀ b ∈ mtext n, b.toNat < 128 := by
  unfold mtext
  rw [cents_eq _ (by omega)]
  intro b hb
  simp only [List.mem_append, List.mem_cons, List.not_mem_nil, or_false] at hb
  rcases hb with (h | h) | h | h
  · exact dec_ascii _ b h
  · rw [h]; decide
  · rw [h, dig_toNat _ (by omega)]; omega
  · rw [h, dig_toNat _ (by omega)]; omega
theorem mtext_len (n : Nat) (h : n ≤ 1000000000000) : 4 ≤ (mtext n).length ∧ (mtext n).length ≤ 14 := by
  unfold mtext
  rw [cents_eq _ (by omega)]
  have h1 := dec_pos (n / 100)
  have h2 := dec_len 10 (n / 100) (by omega)
  simp only [List.length_append, List.length_cons, List.length_nil]
  omega
theorem mtext_inj {n m : Nat} (h : mtext n = mtext m) : n = m := by rw [← mtext_value n, ← mtext_value m, h]
/-- What Parse makes of a text. -/
def isText (bs : List UInt8) : Prop := digV bs ≤ 1000000000000 ∧ bs = mtext (digV bs)
theorem isText_of (n : Nat) (h : n ≤ 1000000000000) : isText (mtext n) := by unfold isText; rw [mtext_value]; exact ⟨h, rfl⟩
instance (bs : List UInt8) : Decidable (isText bs) := by unfold isText; infer_instance

end Go.Proofs.YtijnnfioggjaeaaDoor.Mon
