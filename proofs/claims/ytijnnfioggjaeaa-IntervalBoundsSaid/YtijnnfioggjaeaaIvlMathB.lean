/- The plain mathematics of intervals: results contain the results of elements. Nothing of the program is imported. -/
import Derived.Test.YtijnnfioggjaeaaIvlMath
namespace Go.Proofs.Ytijnnfioggjaeaa.Ivl

theorem low3 (f p q r : Int) : low f [p, q, r] ≤ f ∧ low f [p, q, r] ≤ p ∧ low f [p, q, r] ≤ q ∧ low f [p, q, r] ≤ r ∧ (low f [p, q, r] = f ∨ low f [p, q, r] = p ∨ low f [p, q, r] = q ∨ low f [p, q, r] = r) := by
  have e : low f [p, q, r] = imin (imin (imin f p) q) r := rfl
  have h1 := imin_cases f p
  have h2 := imin_cases (imin f p) q
  have h3 := imin_cases (imin (imin f p) q) r
  rw [e]
  omega
theorem high3 (f p q r : Int) : f ≤ high f [p, q, r] ∧ p ≤ high f [p, q, r] ∧ q ≤ high f [p, q, r] ∧ r ≤ high f [p, q, r] ∧ (high f [p, q, r] = f ∨ high f [p, q, r] = p ∨ high f [p, q, r] = q ∨ high f [p, q, r] = r) := by
  have e : high f [p, q, r] = imax (imax (imax f p) q) r := rfl
  have h1 := imax_cases f p
  have h2 := imax_cases (imax f p) q
  have h3 := imax_cases (imax (imax f p) q) r
  rw [e]
  omega
theorem sat_mono {a b : Int} (h : a ≤ b) : sat a ≤ sat b := by have := sat_cases a; have := sat_cases b; omega
theorem mul_lin (a m n y : Int) (h1 : m ≤ y) (h2 : y ≤ n) : (a * m ≤ a * y ∨ a * n ≤ a * y) ∧ (a * y ≤ a * m ∨ a * y ≤ a * n) := by
  rcases Int.lt_or_le a 0 with h | h
  · exact ⟨Or.inr (Int.mul_le_mul_of_nonpos_left (by omega) h2), Or.inl (Int.mul_le_mul_of_nonpos_left (by omega) h1)⟩
  · exact ⟨Or.inl (Int.mul_le_mul_of_nonneg_left h1 h), Or.inr (Int.mul_le_mul_of_nonneg_left h2 h)⟩
theorem mul_between {l h m n x y : Int} (h1 : l ≤ x) (h2 : x ≤ h) (h3 : m ≤ y) (h4 : y ≤ n) :
    (l * m ≤ x * y ∨ l * n ≤ x * y ∨ h * m ≤ x * y ∨ h * n ≤ x * y) ∧ (x * y ≤ l * m ∨ x * y ≤ l * n ∨ x * y ≤ h * m ∨ x * y ≤ h * n) := by
  have a := mul_lin y l h x h1 h2
  have b := mul_lin l m n y h3 h4
  have c := mul_lin h m n y h3 h4
  rw [Int.mul_comm y l, Int.mul_comm y h, Int.mul_comm y x] at a
  omega
/-- An operation whose results over two intervals lie between those at the bounds. -/
def Incl (g : Int → Int → Int) : Prop := ∀ l h m n x y, l ≤ x → x ≤ h → m ≤ y → y ≤ n →
  (g l m ≤ g x y ∨ g l n ≤ g x y ∨ g h m ≤ g x y ∨ g h n ≤ g x y) ∧ (g x y ≤ g l m ∨ g x y ≤ g l n ∨ g x y ≤ g h m ∨ g x y ≤ g h n)
theorem incl_plus : Incl plus := fun l h m n x y h1 h2 h3 h4 =>
  ⟨Or.inl (sat_mono (by omega)), Or.inr (Or.inr (Or.inr (sat_mono (by omega))))⟩
theorem incl_minus : Incl minus := fun l h m n x y h1 h2 h3 h4 =>
  ⟨Or.inr (Or.inl (sat_mono (by omega))), Or.inr (Or.inr (Or.inl (sat_mono (by omega))))⟩
theorem incl_times : Incl times := by
  intro l h m n x y h1 h2 h3 h4
  obtain ⟨a, b⟩ := mul_between h1 h2 h3 h4
  unfold times
  constructor
  · rcases a with a | a | a | a
    · exact Or.inl (sat_mono a)
    · exact Or.inr (Or.inl (sat_mono a))
    · exact Or.inr (Or.inr (Or.inl (sat_mono a)))
    · exact Or.inr (Or.inr (Or.inr (sat_mono a)))
  · rcases b with b | b | b | b
    · exact Or.inl (sat_mono b)
    · exact Or.inr (Or.inl (sat_mono b))
    · exact Or.inr (Or.inr (Or.inl (sat_mono b)))
    · exact Or.inr (Or.inr (Or.inr (sat_mono b)))
/-- An operation with saturated results. -/
def Satd (g : Int → Int → Int) : Prop := ∀ x y, -1000000000000 ≤ g x y ∧ g x y ≤ 1000000000000
theorem satd_plus : Satd plus := fun _ _ => sat_bd _
theorem satd_minus : Satd minus := fun _ _ => sat_bd _
theorem satd_times : Satd times := fun _ _ => sat_bd _

theorem comb_of {g : Int → Int → Int} {al ah bl bh : Int} (ha : validB al ah = true) (hb : validB bl bh = true) :
    comb g al ah bl bh = (low (g al bl) [g al bh, g ah bl, g ah bh], high (g al bl) [g al bh, g ah bl, g ah bh]) := by
  unfold comb; rw [ha, hb]; rfl
/-- The result of two elements is in the result. -/
theorem comb_in {g : Int → Int → Int} (hg : Incl g) {al ah bl bh x y : Int} (ha : validB al ah = true) (hb : validB bl bh = true) (h1 : al ≤ x) (h2 : x ≤ ah) (h3 : bl ≤ y) (h4 : y ≤ bh) :
    (comb g al ah bl bh).1 ≤ g x y ∧ g x y ≤ (comb g al ah bl bh).2 := by
  rw [comb_of ha hb]
  have a := low3 (g al bl) (g al bh) (g ah bl) (g ah bh)
  have b := high3 (g al bl) (g al bh) (g ah bl) (g ah bh)
  have c := hg al ah bl bh x y h1 h2 h3 h4
  dsimp only
  omega
theorem comb_valid {g : Int → Int → Int} (hg : Satd g) {al ah bl bh : Int} (ha : validB al ah = true) (hb : validB bl bh = true) : validB (comb g al ah bl bh).1 (comb g al ah bl bh).2 = true := by
  rw [comb_of ha hb]
  have a := low3 (g al bl) (g al bh) (g ah bl) (g ah bh)
  have b := high3 (g al bl) (g al bh) (g ah bl) (g ah bh)
  have c1 := hg al bl
  have c2 := hg al bh
  have c3 := hg ah bl
  have c4 := hg ah bh
  exact validB_true (by dsimp only; omega)
/-- Whether an interval is a part of another one. -/
def partB (al ah bl bh : Int) : Bool := decide (bl ≤ al) && decide (ah ≤ bh)
theorem part_iff {al ah bl bh : Int} : partB al ah bl bh = true ↔ bl ≤ al ∧ ah ≤ bh := by simp [partB]
theorem partB_true {al ah bl bh : Int} (h : bl ≤ al ∧ ah ≤ bh) : partB al ah bl bh = true := part_iff.2 h
theorem partB_false {al ah bl bh : Int} (h : ¬ (bl ≤ al ∧ ah ≤ bh)) : partB al ah bl bh = false := by
  cases hb : partB al ah bl bh
  · rfl
  · exact absurd (part_iff.1 hb) h
theorem comb_part {g : Int → Int → Int} (hg : Incl g) {al ah bl bh cl ch dl dh : Int} (ha : validB al ah = true) (hb : validB bl bh = true) (hc : validB cl ch = true) (hd : validB dl dh = true)
    (hab : partB al ah bl bh = true) (hcd : partB cl ch dl dh = true) :
    partB (comb g al ah cl ch).1 (comb g al ah cl ch).2 (comb g bl bh dl dh).1 (comb g bl bh dl dh).2 = true := by
  have va := valid_iff.1 ha
  have vc := valid_iff.1 hc
  have pa := part_iff.1 hab
  have pc := part_iff.1 hcd
  have c1 := comb_in hg hb hd (x := al) (y := cl) (by omega) (by omega) (by omega) (by omega)
  have c2 := comb_in hg hb hd (x := al) (y := ch) (by omega) (by omega) (by omega) (by omega)
  have c3 := comb_in hg hb hd (x := ah) (y := cl) (by omega) (by omega) (by omega) (by omega)
  have c4 := comb_in hg hb hd (x := ah) (y := ch) (by omega) (by omega) (by omega) (by omega)
  have a := low3 (g al cl) (g al ch) (g ah cl) (g ah ch)
  have b := high3 (g al cl) (g al ch) (g ah cl) (g ah ch)
  rw [part_iff]
  rw [comb_of (g := g) ha hc]
  dsimp only
  omega
theorem join_cases {al ah bl bh : Int} (ha : validB al ah = true) (hb : validB bl bh = true) :
    ((al ≤ bl ∧ (join al ah bl bh).1 = al) ∨ (bl ≤ al ∧ (join al ah bl bh).1 = bl)) ∧ ((bh ≤ ah ∧ (join al ah bl bh).2 = ah) ∨ (ah ≤ bh ∧ (join al ah bl bh).2 = bh)) := by
  have va := valid_iff.1 ha
  have vb := valid_iff.1 hb
  have a := low3 al ah bl bh
  have b := high3 al ah bl bh
  unfold join
  rw [ha, hb]
  simp only [Bool.and_self, if_true]
  omega
theorem join_valid {al ah bl bh : Int} (ha : validB al ah = true) (hb : validB bl bh = true) : validB (join al ah bl bh).1 (join al ah bl bh).2 = true := by
  have va := valid_iff.1 ha
  have vb := valid_iff.1 hb
  have := join_cases ha hb
  exact validB_true (by omega)
theorem join_part {al ah bl bh cl ch : Int} (ha : validB al ah = true) (hb : validB bl bh = true) (hc : validB cl ch = true) (hab : partB al ah bl bh = true) :
    partB (join al ah cl ch).1 (join al ah cl ch).2 (join bl bh cl ch).1 (join bl bh cl ch).2 = true := by
  have := join_cases ha hc
  have := join_cases hb hc
  have := part_iff.1 hab
  rw [part_iff]
  omega

end Go.Proofs.Ytijnnfioggjaeaa.Ivl
