/- The plain mathematics of shares. Nothing of the program is imported. -/
import Derived.Lib.Hide
namespace Go.Proofs.YtijnnfioggjaeaaDoor.Mon

def wB (z : Int) : Bool := decide (0 ≤ z) && decide (z ≤ 9999999)
theorem w_iff {z : Int} : wB z = true ↔ 0 ≤ z ∧ z ≤ 9999999 := by simp [wB]
theorem w_no {z : Int} (h : z < 0 ∨ 9999999 < z) : wB z = false := by
  cases hb : wB z
  · rfl
  · have := w_iff.1 hb; omega
def okB (zs : List Int) : Bool := decide (zs.length ≤ 16) && zs.all wB
theorem ok_iff {zs : List Int} : okB zs = true ↔ zs.length ≤ 16 ∧ ∀ z ∈ zs, 0 ≤ z ∧ z ≤ 9999999 := by
  simp only [okB, Bool.and_eq_true, decide_eq_true_eq, List.all_eq_true, w_iff]
def amtB (n : Int) : Bool := decide (0 ≤ n) && decide (n ≤ 1000000000000)
theorem amt_iff {n : Int} : amtB n = true ↔ 0 ≤ n ∧ n ≤ 1000000000000 := by simp [amtB]
theorem amt_no {n : Int} (h : ¬ (0 ≤ n ∧ n ≤ 1000000000000)) : amtB n = false := by
  cases hb : amtB n
  · rfl
  · exact absurd (amt_iff.1 hb) h
theorem sum_bd : ∀ (zs : List Int), (∀ z ∈ zs, 0 ≤ z ∧ z ≤ 9999999) → 0 ≤ zs.sum ∧ zs.sum ≤ 9999999 * zs.length
  | [], _ => by simp
  | z :: zs, h => by
    have h1 := h z (by simp)
    have h2 := sum_bd zs (fun x hx => h x (by simp [hx]))
    simp only [List.sum_cons, List.length_cons]
    omega
theorem sum_snoc (zs : List Int) (z : Int) : (zs ++ [z]).sum = zs.sum + z := by simp [List.sum_append]
/-- Total's answer. -/
def totV (zs : List Int) : Int := if okB zs then zs.sum else 0
def totB (zs : List Int) : Bool := okB zs && decide (0 < zs.sum)
/-- A share of an amount, as a percentage, rounded half to even. -/
def pct (n p : Int) : Int := if n * p % 100 > 50 ∨ n * p % 100 = 50 ∧ n * p / 100 % 2 = 1 then n * p / 100 + 1 else n * p / 100
def pctB (n p : Int) : Bool := amtB n && (decide (0 ≤ p) && decide (p ≤ 100))
theorem pct_iff {n p : Int} : pctB n p = true ↔ (0 ≤ n ∧ n ≤ 1000000000000) ∧ 0 ≤ p ∧ p ≤ 100 := by
  unfold pctB; rw [Bool.and_eq_true, amt_iff]; simp

/-- A part: its index, its share rounded down, what was left. -/
structure Part where
  i : Int
  q : Int
  r : Int
def ord (p s : Part) : Prop := s.r < p.r ∨ s.r = p.r ∧ p.i < s.i
theorem ord_trans {a b c : Part} (h : ord a b) (k : ord b c) : ord a c := by unfold ord at *; omega
/-- The order of an insertion: what x has passed is less, what stands before it is not. -/
theorem insert_sorted {A B : List Part} {x : Part} (hs : (A ++ B).Pairwise ord) (hB : ∀ y ∈ B, y.r < x.r) (hA : ∀ y, A.getLast? = some y → ¬ y.r < x.r) (hi : ∀ y ∈ A, y.i < x.i) : (A ++ x :: B).Pairwise ord := by
  rw [List.pairwise_append] at hs ⊢
  obtain ⟨h1, h2, h3⟩ := hs
  have hAx : ∀ y ∈ A, ord y x := by
    intro y hy
    rcases List.eq_nil_or_concat A with rfl | ⟨A', z, rfl⟩
    · cases hy
    · have hz := hA z (by simp)
      have hzi := hi z (by simp)
      have hzx : ord z x := by unfold ord; omega
      rw [List.concat_eq_append] at hy h1
      rcases List.mem_append.1 hy with h | h
      · exact ord_trans ((List.pairwise_append.1 h1).2.2 y h z (by simp)) hzx
      · rw [List.mem_singleton.1 h]; exact hzx
  refine ⟨h1, List.Pairwise.cons (fun y hy => Or.inl (hB y hy)) h2, fun a ha b hb => ?_⟩
  rcases List.mem_cons.1 hb with rfl | hb
  · exact hAx a ha
  · exact h3 a ha b hb

end Go.Proofs.YtijnnfioggjaeaaDoor.Mon
