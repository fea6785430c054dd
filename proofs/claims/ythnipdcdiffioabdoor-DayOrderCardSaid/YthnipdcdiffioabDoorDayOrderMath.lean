/- The order of the texts of days. -/
import Derived.Test.YthnipdcdiffioabDoorDayMatches
namespace Go.Proofs.YthnipdcdiffioabDoor
open Go.RowKit

theorem bl_app : ∀ (A B X Y : List UInt8), A.length = B.length → Op.bytesLess (A ++ X) (B ++ Y) = (Op.bytesLess A B || (A == B && Op.bytesLess X Y))
  | [], [], X, Y, _ => by simp [Op.bytesLess]
  | a :: A, b :: B, X, Y, h => by
    have ih := bl_app A B X Y (by simpa using h)
    simp only [List.cons_append, Op.bytesLess, ih]
    by_cases hab : a = b
    · subst hab; simp [Bool.and_assoc]
    · have h2 : (a == b) = false := by simp [hab]
      simp [h2]
  | [], _ :: _, _, _, h => by simp at h
  | _ :: _, [], _, _, h => by simp at h
theorem bl_year (y z : Nat) (h1 : 2000 ≤ y) (h2 : y ≤ 2110) (h3 : 2000 ≤ z) (h4 : z ≤ 2110) : Op.bytesLess (Lib.decDigits y) (Lib.decDigits z) = decide (y < z) := by
  rw [← lastD_year y (by omega) (by omega), ← lastD_year z (by omega) (by omega)]
  have : ∀ i j : Fin 111, Op.bytesLess (lastD (2000 + i.1) 4) (lastD (2000 + j.1) 4) = decide (2000 + i.1 < 2000 + j.1) := by decide +kernel
  have h := this ⟨y - 2000, by omega⟩ ⟨z - 2000, by omega⟩
  rw [show 2000 + (y - 2000) = y by omega, show 2000 + (z - 2000) = z by omega] at h
  exact h
theorem bl_two (y z : Nat) (h1 : y ≤ 31) (h2 : z ≤ 31) : Op.bytesLess (two y) (two z) = decide (y < z) := by
  rw [← lastD_two y (by omega), ← lastD_two z (by omega)]
  have : ∀ i j : Fin 32, Op.bytesLess (lastD i.1 2) (lastD j.1 2) = decide (i.1 < j.1) := by decide +kernel
  exact this ⟨y, by omega⟩ ⟨z, by omega⟩
theorem eq_year (y z : Nat) (h1 : 2000 ≤ y) (h2 : y ≤ 2110) (h3 : 2000 ≤ z) (h4 : z ≤ 2110) : (Lib.decDigits y == Lib.decDigits z) = decide (y = z) := by
  apply Bool.eq_iff_iff.2
  rw [beq_iff_eq, decide_eq_true_iff]
  exact ⟨fun h => by rw [← valN_year y h1 h2, ← valN_year z h3 h4, h], fun h => by rw [h]⟩
theorem eq_two (y z : Nat) (h1 : y ≤ 31) (h2 : z ≤ 31) : (two y == two z) = decide (y = z) := by
  apply Bool.eq_iff_iff.2
  rw [beq_iff_eq, decide_eq_true_iff]
  exact ⟨fun h => by rw [← valN_two y (by omega), ← valN_two z (by omega), h], fun h => by rw [h]⟩
theorem bl_self (A : List UInt8) : Op.bytesLess A A = false := by
  induction A with
  | nil => rfl
  | cons a A ih => simp [Op.bytesLess, ih]
theorem text_less {n m : Int} {S T : List UInt8} (h1 : IsText n S) (h2 : IsText m T) : Op.bytesLess S T = decide (n < m) := by
  obtain ⟨K, y, mo, d, k1, k2, k3, k4, k0, k5, k6, k7, rfl⟩ := h1
  obtain ⟨L, z, mp, e, l1, l2, l3, l4, l0, l5, l6, l7, rfl⟩ := h2
  have yb : 2000 ≤ y ∧ y ≤ 2110 := by have : Cal.yr K = 2000 + ((K / 12 : Nat) : Int) := rfl; omega
  have mb : 1 ≤ mo ∧ mo ≤ 12 := by have := Cal.mo_bd K; omega
  have db : d ≤ 31 := by have := Cal.len_bd K; have hl : Cal.cum (K + 1) = Cal.cum K + Cal.len K := rfl; omega
  have zb : 2000 ≤ z ∧ z ≤ 2110 := by have : Cal.yr L = 2000 + ((L / 12 : Nat) : Int) := rfl; omega
  have pb : 1 ≤ mp ∧ mp ≤ 12 := by have := Cal.mo_bd L; omega
  have eb : e ≤ 31 := by have := Cal.len_bd L; have hl : Cal.cum (L + 1) = Cal.cum L + Cal.len L := rfl; omega
  have eK : K = 12 * (y - 2000) + (mo - 1) := by unfold Cal.yr at k5; unfold Cal.mo at k6; omega
  have eL : L = 12 * (z - 2000) + (mp - 1) := by unfold Cal.yr at l5; unfold Cal.mo at l6; omega
  unfold dateText
  simp only [List.append_assoc]
  rw [bl_app _ _ _ _ (by rw [year_len y (by omega) (by omega), year_len z (by omega) (by omega)]), bl_year y z yb.1 yb.2 zb.1 zb.2, eq_year y z yb.1 yb.2 zb.1 zb.2,
    bl_app [45] [45] _ _ rfl, bl_app _ _ _ _ (by rw [two_len mo (by omega), two_len mp (by omega)]), bl_two mo mp (by omega) (by omega), eq_two mo mp (by omega) (by omega),
    bl_app [45] [45] _ _ rfl, bl_two d e db eb, bl_self]
  have hor : K < L ∨ K = L ∨ L < K := by omega
  apply Bool.eq_iff_iff.2
  simp only [Bool.or_eq_true, Bool.and_eq_true, decide_eq_true_eq, beq_self_eq_true, true_and, Bool.false_eq_true, false_or]
  rcases hor with h | h | h
  · have := Cal.cum_mono (show K + 1 ≤ L from h)
    constructor
    · intro; omega
    · intro; omega
  · subst h
    constructor
    · intro; omega
    · intro; omega
  · have := Cal.cum_mono (show L + 1 ≤ K from h)
    constructor
    · intro; omega
    · intro; omega
theorem text_inj {n m : Int} {S : List UInt8} (h1 : IsText n S) (h2 : IsText m S) : n = m := by
  have a := text_less h1 h2
  have b := text_less h2 h1
  rw [bl_self] at a b
  have a' := of_decide_eq_false a.symm
  have b' := of_decide_eq_false b.symm
  omega
theorem text_size {n : Int} {S : List UInt8} (h : IsText n S) : (⟨S.toArray⟩ : ByteArray).size ≤ 100 := by
  obtain ⟨K, y, mo, d, k1, k2, k3, k4, k0, k5, k6, k7, rfl⟩ := h
  have yb : 2000 ≤ y ∧ y ≤ 2110 := by have : Cal.yr K = 2000 + ((K / 12 : Nat) : Int) := rfl; omega
  have mb : 1 ≤ mo ∧ mo ≤ 12 := by have := Cal.mo_bd K; omega
  have db : d ≤ 31 := by have := Cal.len_bd K; have hl : Cal.cum (K + 1) = Cal.cum K + Cal.len K := rfl; omega
  have := (parts_of (Lib.decDigits y) (two mo) (two d) (year_len y (by omega) (by omega)) (two_len mo (by omega)) (two_len d (by omega)) ⟨(dateText y mo d).toArray⟩ (by simp [dateText])).1
  omega
theorem parse_text {n : Int} {S : List UInt8} (h : IsText n S) :
    Hid (∀ w, MTab w → Tab w → Syn w → Calls Tryd.prog 15 #[.string ⟨S.toArray⟩] w fun e w' => e = .returned (.tuple #[.int .i64 n, .int .i64 0]) ∧ Below w.heap.size w w') := by
  obtain ⟨v, q, P1, -, hk⟩ := parse_any ⟨S.toArray⟩ (text_size h)
  have hS : IsText n (⟨S.toArray⟩ : ByteArray).data.toList := by simpa using h
  rcases hk with ⟨h1, rfl⟩ | ⟨h1, -⟩
  · obtain rfl := text_inj h1 hS
    exact P1
  · exact absurd ⟨n, hS⟩ h1

end Go.Proofs.YthnipdcdiffioabDoor
