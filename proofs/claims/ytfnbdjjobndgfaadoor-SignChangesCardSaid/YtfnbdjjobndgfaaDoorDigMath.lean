/- The plain mathematics of digests: mixing and the digits of a number are injective. Nothing of the program is imported. -/
import Derived.Laws.Bits64
namespace Go.Proofs.YtfnbdjjobndgfaaDoor.Dig

/-- The number that a u64 holds at most. -/
def M : Nat := 18446744073709551616
theorem M_eq : M = 2 ^ 64 := by decide

/-- One mixing step. -/
def mixA (x : Nat) : Nat := x * 6364136223846793005 % 18446744073709551616
def mixB (x : Nat) : Nat := x ^^^ x / 8589934592
def mixC (x : Nat) : Nat := x * 2685821657736338717 % 18446744073709551616
def mixD (x : Nat) : Nat := x ^^^ x / 134217728
def mixN (x : Nat) : Nat := mixD (mixC (mixB (mixA x)))

theorem mixA_lt (x : Nat) : mixA x < 18446744073709551616 := Nat.mod_lt _ (by decide)
theorem mixC_lt (x : Nat) : mixC x < 18446744073709551616 := Nat.mod_lt _ (by decide)
theorem xordiv_lt (x s : Nat) (h : x < 18446744073709551616) : x ^^^ x / s < 18446744073709551616 := by
  have e : (18446744073709551616 : Nat) = 2 ^ 64 := by decide
  rw [e] at h ⊢
  exact Nat.xor_lt_two_pow h (Nat.lt_of_le_of_lt (Nat.div_le_self _ _) h)
theorem mixB_lt (x : Nat) (h : x < 18446744073709551616) : mixB x < 18446744073709551616 := xordiv_lt x _ h
theorem mixD_lt (x : Nat) (h : x < 18446744073709551616) : mixD x < 18446744073709551616 := xordiv_lt x _ h
theorem mixN_lt (x : Nat) : mixN x < 18446744073709551616 := mixD_lt _ (mixC_lt _)

/-- A product by an odd number can be undone. -/
theorem mul_inj (c d x y : Nat) (hcd : c * d % 18446744073709551616 = 1) (hx : x < 18446744073709551616) (hy : y < 18446744073709551616)
    (h : x * c % 18446744073709551616 = y * c % 18446744073709551616) : x = y := by
  have k : ∀ z, z < 18446744073709551616 → (z * c % 18446744073709551616) * d % 18446744073709551616 = z := by
    intro z hz
    rw [Nat.mod_mul_mod, Nat.mul_assoc, Nat.mul_mod, hcd, Nat.mul_one, Nat.mod_mod]
    exact Nat.mod_eq_of_lt hz
  rw [← k x hx, ← k y hy, h]
theorem mixA_inj {x y : Nat} (hx : x < 18446744073709551616) (hy : y < 18446744073709551616) (h : mixA x = mixA y) : x = y :=
  mul_inj 6364136223846793005 13877824140714322085 x y (by decide) hx hy h
theorem mixC_inj {x y : Nat} (hx : x < 18446744073709551616) (hy : y < 18446744073709551616) (h : mixC x = mixC y) : x = y :=
  mul_inj 2685821657736338717 6415128727920758069 x y (by decide) hx hy h

/-- A number and itself shifted right by some places can be parted again. -/
theorem xordiv_inj (s : Nat) (hs : 0 < s) : ∀ (n x y : Nat), x < 2 ^ n → y < 2 ^ n → x ^^^ x / 2 ^ s = y ^^^ y / 2 ^ s → x = y := by
  intro n
  induction n using Nat.strongRecOn with
  | _ n ih =>
    intro x y hx hy h
    by_cases hn : n ≤ s
    · have e1 : x / 2 ^ s = 0 := Nat.div_eq_of_lt (Nat.lt_of_lt_of_le hx (Nat.pow_le_pow_right (by decide) hn))
      have e2 : y / 2 ^ s = 0 := Nat.div_eq_of_lt (Nat.lt_of_lt_of_le hy (Nat.pow_le_pow_right (by decide) hn))
      rw [e1, e2] at h
      simpa using h
    · have q : x / 2 ^ s = y / 2 ^ s := by
        refine ih (n - s) (by omega) _ _ ?_ ?_ ?_
        · rw [Nat.div_lt_iff_lt_mul (Nat.two_pow_pos _), ← Nat.pow_add]; rwa [show n - s + s = n by omega]
        · rw [Nat.div_lt_iff_lt_mul (Nat.two_pow_pos _), ← Nat.pow_add]; rwa [show n - s + s = n by omega]
        · have := congrArg (· / 2 ^ s) h
          simpa [← Nat.shiftRight_eq_div_pow, Nat.shiftRight_xor_distrib] using this
      rw [q] at h
      have := congrArg (· ^^^ y / 2 ^ s) h
      simpa [Nat.xor_assoc] using this
theorem mixB_inj {x y : Nat} (hx : x < 18446744073709551616) (hy : y < 18446744073709551616) (h : mixB x = mixB y) : x = y := by
  have e : (8589934592 : Nat) = 2 ^ 33 := by decide
  unfold mixB at h; rw [e] at h
  exact xordiv_inj 33 (by decide) 64 x y (by simpa using hx) (by simpa using hy) h
theorem mixD_inj {x y : Nat} (hx : x < 18446744073709551616) (hy : y < 18446744073709551616) (h : mixD x = mixD y) : x = y := by
  have e : (134217728 : Nat) = 2 ^ 27 := by decide
  unfold mixD at h; rw [e] at h
  exact xordiv_inj 27 (by decide) 64 x y (by simpa using hx) (by simpa using hy) h
theorem mixN_inj {x y : Nat} (hx : x < 18446744073709551616) (hy : y < 18446744073709551616) (h : mixN x = mixN y) : x = y :=
  mixA_inj hx hy (mixB_inj (mixA_lt _) (mixA_lt _) (mixC_inj (mixB_lt _ (mixA_lt _)) (mixB_lt _ (mixA_lt _)) (mixD_inj (mixC_lt _) (mixC_lt _) h)))

/-- What a walk through mixing leaves is the mixed number. -/
theorem wrapA (x : Nat) : IntKind.u64.wrap ((x : Int) * 6364136223846793005) = ((mixA x : Nat) : Int) := by
  rw [IntKind.wrap_u64]; unfold mixA; simp
theorem wrapC (x : Nat) : IntKind.u64.wrap ((x : Int) * 2685821657736338717) = ((mixC x : Nat) : Int) := by
  rw [IntKind.wrap_u64]; unfold mixC; simp
theorem xorB (x : Nat) (h : x < 18446744073709551616) : bits .xor .u64 (x : Int) ((x : Int) / 8589934592) = ((mixB x : Nat) : Int) := by
  have := xorShift_u64 x 8589934592 h; simpa [mixB] using this
theorem xorD (x : Nat) (h : x < 18446744073709551616) : bits .xor .u64 (x : Int) ((x : Int) / 134217728) = ((mixD x : Nat) : Int) := by
  have := xorShift_u64 x 134217728 h; simpa [mixD] using this
theorem mix_walk (x : Nat) :
    bits .xor .u64 (IntKind.u64.wrap (bits .xor .u64 (IntKind.u64.wrap ((x : Int) * 6364136223846793005)) (IntKind.u64.wrap ((x : Int) * 6364136223846793005) / 8589934592) * 2685821657736338717))
      (IntKind.u64.wrap (bits .xor .u64 (IntKind.u64.wrap ((x : Int) * 6364136223846793005)) (IntKind.u64.wrap ((x : Int) * 6364136223846793005) / 8589934592) * 2685821657736338717) / 134217728) = ((mixN x : Nat) : Int) := by
  rw [wrapA, xorB _ (mixA_lt x), wrapC, xorD _ (mixC_lt _)]; rfl

/-- The number of a block's bytes, the first one the most significant. -/
def num (l : List UInt8) : Nat := l.foldl (fun x c => x * 256 + c.toNat) 0

theorem num_snoc (l : List UInt8) (c : UInt8) : num (l ++ [c]) = num l * 256 + c.toNat := by simp [num]
theorem num_from_lt (l : List UInt8) : ∀ x : Nat, l.foldl (fun x c => x * 256 + c.toNat) x < (x + 1) * 256 ^ l.length := by
  induction l with
  | nil => intro x; simp
  | cons c l ih =>
    intro x
    refine Nat.lt_of_lt_of_le (ih _) ?_
    rw [List.length_cons, Nat.pow_succ, Nat.mul_comm (256 ^ l.length) 256, ← Nat.mul_assoc]
    have := c.toNat_lt
    exact Nat.mul_le_mul_right _ (by dsimp only; omega)
theorem num_lt (l : List UInt8) : num l < 256 ^ l.length := by
  have := num_from_lt l 0
  simpa [num] using this
/-- 'or' on u64 is Nat's. -/
theorem or_u64_nat (a b : Nat) (ha : a < 18446744073709551616) (hb : b < 18446744073709551616) :
    bits .or .u64 (a : Int) (b : Int) = ((a ||| b : Nat) : Int) := by
  have hx : a ||| b < 2 ^ 64 := Nat.or_lt_two_pow (by omega) (by omega)
  have h1 : (BitVec.ofInt 64 (a : Int)).toNat = a := by
    rw [BitVec.ofInt_natCast, BitVec.toNat_ofNat]; exact Nat.mod_eq_of_lt (by omega)
  have h2 : (BitVec.ofInt 64 (b : Int)).toNat = b := by
    rw [BitVec.ofInt_natCast, BitVec.toNat_ofNat]; exact Nat.mod_eq_of_lt (by omega)
  show IntKind.u64.wrap ((BitVec.ofInt 64 (a : Int) ||| BitVec.ofInt 64 (b : Int)).toNat : Int) = _
  rw [BitVec.toNat_or, h1, h2, IntKind.wrap_u64]
  omega
/-- What one round of the loop over a block leaves. -/
theorem or_byte (x c : Nat) (hx : x < 72057594037927936) (hc : c < 256) : bits .or .u64 (IntKind.u64.wrap ((x : Int) * 256)) (c : Int) = ((x * 256 + c : Nat) : Int) := by
  have e : IntKind.u64.wrap ((x : Int) * 256) = ((x * 256 : Nat) : Int) := by rw [IntKind.wrap_u64]; omega
  have ho : x * 256 ||| c = x * 256 + c := by
    have := Nat.shiftLeft_add_eq_or_of_lt (a := x) (b := c) (i := 8) (by simpa using hc)
    simpa [Nat.shiftLeft_eq] using this.symm
  rw [e, or_u64_nat _ _ (by omega) (by omega), ho]
theorem num_step (l : List UInt8) (k : Nat) (hl : l.length = 8) (hk : k < l.length) :
    bits .or .u64 (IntKind.u64.wrap (((num (l.take k) : Nat) : Int) * 256)) (IntKind.u64.wrap ((l[k].toNat : Nat) : Int)) = ((num (l.take (k + 1)) : Nat) : Int) := by
  have ht : l.take (k + 1) = l.take k ++ [l[k]] := List.take_succ_eq_append_getElem hk
  have hb := num_lt (l.take k)
  have hlen : (l.take k).length = k := by simp; omega
  rw [hlen] at hb
  have hc := l[k].toNat_lt
  have e : IntKind.u64.wrap ((l[k].toNat : Nat) : Int) = ((l[k].toNat : Nat) : Int) := by rw [IntKind.wrap_u64]; omega
  rw [ht, num_snoc, e]
  exact or_byte _ _ (Nat.lt_of_lt_of_le hb (Nat.le_trans (Nat.pow_le_pow_right (by decide) (show k ≤ 7 by omega)) (by decide))) hc

/-- A hexadecimal digit. -/
def hexDigit (n : Nat) : UInt8 := [48, 49, 50, 51, 52, 53, 54, 55, 56, 57, 97, 98, 99, 100, 101, 102].getD n 0
/-- The cells of the digits, of which the last k are laid. -/
def hexCells (x k : Nat) : List UInt8 := (List.range 16).map fun i => if 16 ≤ i + k then hexDigit (x / 16 ^ (15 - i) % 16) else 0
/-- The digits of a number. -/
def hex (x : Nat) : List UInt8 := (List.range 16).map fun i => hexDigit (x / 16 ^ (15 - i) % 16)
theorem hexCells_length (x k : Nat) : (hexCells x k).length = 16 := by simp [hexCells]
theorem hex_length (x : Nat) : (hex x).length = 16 := by simp [hex]
theorem hexCells_all (x : Nat) : hexCells x 16 = hex x := by
  unfold hexCells hex
  exact List.map_congr_left fun i _ => if_pos (by omega)
theorem hexCells_none (x : Nat) : hexCells x 0 = List.replicate 16 0 := by
  unfold hexCells
  have : (List.range 16).map (fun i => if 16 ≤ i + 0 then hexDigit (x / 16 ^ (15 - i) % 16) else 0) = (List.range 16).map (fun _ => (0 : UInt8)) :=
    List.map_congr_left fun i hi => if_neg (by have := List.mem_range.1 hi; omega)
  rw [this]; rfl
theorem hexCells_set (x k : Nat) (hk : k < 16) : (hexCells x k).set (15 - k) (hexDigit (x / 16 ^ k % 16)) = hexCells x (k + 1) := by
  apply List.ext_getElem
  · simp [hexCells]
  · intro i h1 h2
    have hi : i < 16 := by simpa [hexCells] using h2
    rw [List.getElem_set]
    by_cases he : 15 - k = i
    · subst he
      simp [hexCells]
      rw [if_pos (by omega), show 15 - (15 - k) = k by omega]
    · rw [if_neg he]
      simp only [hexCells, List.getElem_map, List.getElem_range]
      by_cases h : 16 ≤ i + k
      · rw [if_pos h, if_pos (by omega)]
      · rw [if_neg h, if_neg (by omega)]
theorem and15 (y : Nat) (hy : y < 18446744073709551616) : bits .and .u64 (y : Int) 15 = ((y % 16 : Nat) : Int) := by
  have h1 : (BitVec.ofInt 64 (y : Int)).toNat = y := by
    rw [BitVec.ofInt_natCast, BitVec.toNat_ofNat]; exact Nat.mod_eq_of_lt (by omega)
  have h2 : (BitVec.ofInt 64 (15 : Int)).toNat = 15 := by decide
  show IntKind.u64.wrap ((BitVec.ofInt 64 (y : Int) &&& BitVec.ofInt 64 (15 : Int)).toNat : Int) = _
  have h3 : y &&& 15 = y % 16 := Nat.and_two_pow_sub_one_eq_mod y 4
  rw [BitVec.toNat_and, h1, h2, h3, IntKind.wrap_u64]
  omega

/-- The block of a text from a place on: what the text does not fill is 0. -/
def blk (l : List UInt8) (p : Nat) : List UInt8 := [l.getD p 0, l.getD (p + 1) 0, l.getD (p + 2) 0, l.getD (p + 3) 0, l.getD (p + 4) 0, l.getD (p + 5) 0, l.getD (p + 6) 0, l.getD (p + 7) 0]
theorem blk_length (l : List UInt8) (p : Nat) : (blk l p).length = 8 := rfl
theorem blk_eq (l : List UInt8) (p : Nat) : blk l p = (l.drop p).take 8 ++ List.replicate (8 - (l.length - p)) 0 := by
  apply List.ext_getElem
  · simp [blk]; omega
  · intro i h1 h2
    have hi : i < 8 := by simpa [blk] using h1
    have hb : (blk l p)[i]'h1 = l.getD (p + i) 0 := by
      clear h2
      have hc : i = 0 ∨ i = 1 ∨ i = 2 ∨ i = 3 ∨ i = 4 ∨ i = 5 ∨ i = 6 ∨ i = 7 := by omega
      rcases hc with rfl | rfl | rfl | rfl | rfl | rfl | rfl | rfl <;> rfl
    rw [hb]
    by_cases h : p + i < l.length
    · rw [List.getElem_append_left (by simp; omega)]
      simp [List.getD_eq_getElem?_getD, List.getElem?_eq_getElem h]
    · rw [List.getElem_append_right (by simp; omega)]
      simp [List.getD_eq_getElem?_getD, List.getElem?_eq_none (show l.length ≤ p + i by omega)]

/-- The state after some blocks of a text. -/
def state (l : List UInt8) : Nat → Nat
  | 0 => 7046029254386353131 ^^^ l.length
  | k + 1 => mixN (state l k ^^^ num (blk l (k * 8)))
/-- The state at the end. -/
def sum (l : List UInt8) : Nat := state l (l.length / 8 + 1)
theorem num_blk_lt (l : List UInt8) (p : Nat) : num (blk l p) < 18446744073709551616 := by
  have := num_lt (blk l p)
  rw [blk_length] at this
  exact Nat.lt_of_lt_of_le this (by decide)
theorem xor_lt {x y : Nat} (hx : x < 18446744073709551616) (hy : y < 18446744073709551616) : x ^^^ y < 18446744073709551616 := by
  have e : (18446744073709551616 : Nat) = 2 ^ 64 := by decide
  rw [e] at hx hy ⊢
  exact Nat.xor_lt_two_pow hx hy
theorem state_lt (l : List UInt8) (hl : l.length < 18446744073709551616) : ∀ k, state l k < 18446744073709551616
  | 0 => xor_lt (by decide) hl
  | _ + 1 => mixN_lt _

end Go.Proofs.YtfnbdjjobndgfaaDoor.Dig
