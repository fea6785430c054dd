/- The plain mathematics of intervals. Nothing of the program is imported. -/
namespace Go.Proofs.Ytijnnfioggjaeaa.Ivl

def validB (l h : Int) : Bool := decide (l ≤ h) && (decide (-1000000000000 ≤ l) && decide (h ≤ 1000000000000))
theorem valid_iff {l h : Int} : validB l h = true ↔ l ≤ h ∧ -1000000000000 ≤ l ∧ h ≤ 1000000000000 := by
  simp [validB]
theorem validB_true {l h : Int} (H : l ≤ h ∧ -1000000000000 ≤ l ∧ h ≤ 1000000000000) : validB l h = true := valid_iff.2 H
theorem validB_false {l h : Int} (H : ¬ (l ≤ h ∧ -1000000000000 ≤ l ∧ h ≤ 1000000000000)) : validB l h = false := by
  cases hb : validB l h
  · rfl
  · exact absurd (valid_iff.1 hb) H
def imin (a b : Int) : Int := if b < a then b else a
def imax (a b : Int) : Int := if a < b then b else a
def sat (n : Int) : Int := imax (-1000000000000) (imin n 1000000000000)
def low (f : Int) (l : List Int) : Int := l.foldl imin f
def high (f : Int) (l : List Int) : Int := l.foldl imax f
theorem low_take (f : Int) (l : List Int) (k : Nat) (h : k < l.length) : low f (l.take (k + 1)) = imin (low f (l.take k)) (l.getD k 0) := by
  rw [List.take_succ_eq_append_getElem h]; unfold low; rw [List.foldl_append, List.getD_eq_getElem?_getD, List.getElem?_eq_getElem h]; rfl
theorem high_take (f : Int) (l : List Int) (k : Nat) (h : k < l.length) : high f (l.take (k + 1)) = imax (high f (l.take k)) (l.getD k 0) := by
  rw [List.take_succ_eq_append_getElem h]; unfold high; rw [List.foldl_append, List.getD_eq_getElem?_getD, List.getElem?_eq_getElem h]; rfl

theorem sat_cases (n : Int) : (n < -1000000000000 ∧ sat n = -1000000000000) ∨ (1000000000000 < n ∧ sat n = 1000000000000) ∨ (-1000000000000 ≤ n ∧ n ≤ 1000000000000 ∧ sat n = n) := by
  unfold sat imin imax
  repeat' split
  all_goals omega
theorem sat_bd (n : Int) : -1000000000000 ≤ sat n ∧ sat n ≤ 1000000000000 := by have := sat_cases n; omega
theorem sat_id {n : Int} (h : -1000000000000 ≤ n ∧ n ≤ 1000000000000) : sat n = n := by have := sat_cases n; omega
theorem imax_cases (a b : Int) : (a < b ∧ imax a b = b) ∨ (b ≤ a ∧ imax a b = a) := by unfold imax; split <;> omega
theorem imin_cases (a b : Int) : (b < a ∧ imin a b = b) ∨ (a ≤ b ∧ imin a b = a) := by unfold imin; split <;> omega
/-- The magnitude of a number. -/
def abs (n : Int) : Int := imax n (-n)
theorem abs_cases (n : Int) : (0 ≤ n ∧ abs n = n) ∨ (n < 0 ∧ abs n = -n) := by unfold abs; have := imax_cases n (-n); omega
theorem abs_mul (n m : Int) : abs (n * m) = abs n * abs m := by
  rcases abs_cases n with ⟨h1, e1⟩ | ⟨h1, e1⟩ <;> rcases abs_cases m with ⟨h2, e2⟩ | ⟨h2, e2⟩ <;> rw [e1, e2]
  · have := Int.mul_nonneg h1 h2
    rcases abs_cases (n * m) with ⟨_, e⟩ | ⟨_, e⟩ <;> omega
  · have := Int.mul_nonneg h1 (show 0 ≤ -m by omega)
    rw [Int.mul_neg] at this ⊢
    rcases abs_cases (n * m) with ⟨_, e⟩ | ⟨_, e⟩ <;> omega
  · have := Int.mul_nonneg (show 0 ≤ -n by omega) h2
    rw [Int.neg_mul] at this ⊢
    rcases abs_cases (n * m) with ⟨_, e⟩ | ⟨_, e⟩ <;> omega
  · have := Int.mul_nonneg (show 0 ≤ -n by omega) (show 0 ≤ -m by omega)
    rw [Int.neg_mul_neg] at this ⊢
    rcases abs_cases (n * m) with ⟨_, e⟩ | ⟨_, e⟩ <;> omega
/-- The saturated product. -/
def times (n m : Int) : Int := sat (n * m)
theorem times_small {n m : Int} (hm : m ≠ 0) (h : abs n ≤ 1000000000000 / abs m) : times n m = n * m ∧ -1000000000000 ≤ n * m ∧ n * m ≤ 1000000000000 := by
  have hp : 0 < abs m := by have := abs_cases m; omega
  have h1 : abs n * abs m ≤ 1000000000000 := (Int.le_ediv_iff_mul_le hp).1 h
  rw [← abs_mul] at h1
  have h2 := abs_cases (n * m)
  have h3 : -1000000000000 ≤ n * m ∧ n * m ≤ 1000000000000 := by omega
  exact ⟨sat_id h3, h3⟩
theorem times_great {n m : Int} (hm : m ≠ 0) (h : ¬ abs n ≤ 1000000000000 / abs m) : 1000000000000 < abs (n * m) := by
  have hp : 0 < abs m := by have := abs_cases m; omega
  rw [abs_mul]
  rcases Int.lt_or_le 1000000000000 (abs n * abs m) with h1 | h1
  · exact h1
  · exact absurd ((Int.le_ediv_iff_mul_le hp).2 h1) h
theorem times_same {n m : Int} (hm : m ≠ 0) (h : ¬ abs n ≤ 1000000000000 / abs m) (hs : (n < 0) ↔ (m < 0)) : times n m = 1000000000000 := by
  have h1 := times_great hm h
  have h0 : 0 ≤ n * m := by
    by_cases hn : n < 0
    · have := Int.mul_nonneg (show 0 ≤ -n by omega) (show 0 ≤ -m by have := hs.1 hn; omega)
      rwa [Int.neg_mul_neg] at this
    · exact Int.mul_nonneg (by omega) (by rcases Int.lt_or_le m 0 with h2 | h2; exact absurd (hs.2 h2) hn; exact h2)
  have h2 := abs_cases (n * m)
  unfold times
  have := sat_cases (n * m)
  omega
theorem times_other {n m : Int} (hm : m ≠ 0) (h : ¬ abs n ≤ 1000000000000 / abs m) (hs : ¬ ((n < 0) ↔ (m < 0))) : times n m = -1000000000000 := by
  have h1 := times_great hm h
  have h0 : n * m ≤ 0 := by
    by_cases hn : n < 0
    · have hm' : 0 ≤ m := by
        rcases Int.lt_or_le m 0 with h2 | h2
        · exact absurd ⟨fun _ => h2, fun _ => hn⟩ hs
        · exact h2
      have := Int.mul_nonneg (show 0 ≤ -n by omega) hm'
      rw [Int.neg_mul] at this; omega
    · have hm' : m < 0 := by
        rcases Int.lt_or_le m 0 with h2 | h2
        · exact h2
        · exact absurd ⟨fun h3 => absurd h3 hn, fun h3 => by omega⟩ hs
      have := Int.mul_nonneg (show 0 ≤ n by omega) (show 0 ≤ -m by omega)
      rw [Int.mul_neg] at this; omega
  have h2 := abs_cases (n * m)
  unfold times
  have := sat_cases (n * m)
  omega
theorem times_zero {n m : Int} (h : n = 0 ∨ m = 0) : times n m = 0 := by
  have : n * m = 0 := by rcases h with rfl | rfl <;> simp
  unfold times; rw [this]; exact sat_id (by omega)

/-- What two intervals give by an operation with its extremes at the bounds. -/
def comb (g : Int → Int → Int) (al ah bl bh : Int) : Int × Int :=
  if validB al ah && validB bl bh then (low (g al bl) [g al bh, g ah bl, g ah bh], high (g al bl) [g al bh, g ah bl, g ah bh]) else (0, 0)
def join (al ah bl bh : Int) : Int × Int :=
  if validB al ah && validB bl bh then (low al [ah, bl, bh], high al [ah, bl, bh]) else (0, 0)
def plus (n m : Int) : Int := sat (n + m)
def minus (n m : Int) : Int := sat (n - m)

/-- Three-valued logic. -/
def known (a : Int) : Int := if a = 0 ∨ a = 2 then a else 1
theorem known_cases (a : Int) : (a = 0 ∧ known a = 0) ∨ (a = 2 ∧ known a = 2) ∨ (a ≠ 0 ∧ a ≠ 2 ∧ known a = 1) := by
  unfold known; split <;> omega
def notT (a : Int) : Int := 2 - known a
def andT (a b : Int) : Int := imin (known a) (known b)
def orT (a b : Int) : Int := imax (known a) (known b)
/-- Whether an interval is over a number. -/
def over (l h n : Int) : Int := if validB l h = false ∨ h ≤ n then 0 else if n < l then 2 else 1
theorem over_cases (l h n : Int) : ((validB l h = false ∨ h ≤ n) ∧ over l h n = 0) ∨ (validB l h = true ∧ n < h ∧ n < l ∧ over l h n = 2) ∨ (validB l h = true ∧ n < h ∧ l ≤ n ∧ over l h n = 1) := by
  unfold over
  split
  · exact Or.inl ⟨by assumption, rfl⟩
  · rename_i hn
    have h1 : validB l h = true := by cases hb : validB l h <;> simp_all
    have h2 : n < h := by
      rcases Int.lt_or_le n h with h2 | h2
      · exact h2
      · exact absurd (Or.inr h2) hn
    split
    · exact Or.inr (Or.inl ⟨h1, h2, by assumption, rfl⟩)
    · exact Or.inr (Or.inr ⟨h1, h2, by omega, rfl⟩)

end Go.Proofs.Ytijnnfioggjaeaa.Ivl
