/- The texts of days, and what both parsers make of them. -/
import Derived.Test.YthnipdcdiffioabDoorDayParseR
namespace Go.Proofs.YthnipdcdiffioabDoor
open Go.RowKit

/-- The text of a day. -/
def IsText (n : Int) (T : List UInt8) : Prop := ∃ K y m d : Nat, K ≤ 1320 ∧ K < 1315 ∧ Cal.cum K ≤ n ∧ n < Cal.cum (K + 1) ∧ (0 ≤ n ∧ n ≤ 40000) ∧ (y : Int) = Cal.yr K ∧ (m : Int) = Cal.mo K ∧ (d : Int) = n - Cal.cum K + 1 ∧ T = dateText y m d
theorem text_ex (n : Int) (h : 0 ≤ n ∧ n ≤ 40000) : ∃ T, IsText n T := by
  obtain ⟨K, k1, k2, k3, k4⟩ := month_K n h
  have y0 : 2000 ≤ Cal.yr K := by unfold Cal.yr; omega
  have m0 := (Cal.mo_bd K).1
  exact ⟨_, K, (Cal.yr K).toNat, (Cal.mo K).toNat, (n - Cal.cum K + 1).toNat, k1, k2, k3, k4, h, by omega, by omega, by omega, rfl⟩
theorem text_uniq {n : Int} {T U : List UInt8} (h1 : IsText n T) (h2 : IsText n U) : T = U := by
  obtain ⟨K, y, m, d, -, -, a1, a2, -, a3, a4, a5, rfl⟩ := h1
  obtain ⟨L, y', m', d', -, -, b1, b2, -, b3, b4, b5, rfl⟩ := h2
  obtain rfl := Cal.month_unique a1 a2 b1 b2
  obtain rfl : y = y' := by omega
  obtain rfl : m = m' := by omega
  obtain rfl : d = d' := by omega
  rfl
theorem text_of {n : Int} {T : List UInt8} (h : IsText n T) (w : World) (hT : MTab w) (ht : Tab w) :
    Calls Tryd.prog 13 #[.int .i64 n] w fun e w' => e = .returned (.tuple #[.string ⟨T.toArray⟩, .int .i64 0]) ∧ Below w.heap.size w w' := by
  obtain ⟨K, y, m, d, k1, -, a1, a2, h0, a3, a4, a5, rfl⟩ := h
  exact text_good n K y m d k1 a1 a2 h0 a3 a4 a5 w hT ht
theorem refText_of {n : Int} {T : List UInt8} (h : IsText n T) (w : World) :
    Calls Tryd.prog 14 #[.int .i64 n] w fun e w' => e = .returned (.tuple #[.string ⟨T.toArray⟩, .int .i64 0]) ∧ Below w.heap.size w w' := by
  obtain ⟨K, y, m, d, k1, -, a1, a2, h0, a3, a4, a5, rfl⟩ := h
  exact refText_good n K y m d k1 a1 a2 h0 a3 a4 a5 w

theorem atoi_two (k : Nat) (h : k < 100) : Lib.atoi (two k) = some (k : Int) := by
  rw [← lastD_two k h]
  have : ∀ j : Fin 100, Lib.atoi (lastD j.1 2) = some (j.1 : Int) := by decide +kernel
  exact this ⟨k, h⟩
theorem valN_two (k : Nat) (h : k < 100) : valN (two k) = k := by
  rw [← lastD_two k h]
  have : ∀ j : Fin 100, valN (lastD j.1 2) = j.1 := by decide +kernel
  exact this ⟨k, h⟩
theorem atoi_year (y : Nat) (h1 : 2000 ≤ y) (h2 : y ≤ 2110) : Lib.atoi (Lib.decDigits y) = some (y : Int) := by
  rw [← lastD_year y (by omega) (by omega)]
  have : ∀ j : Fin 111, Lib.atoi (lastD (2000 + j.1) 4) = some ((2000 + j.1 : Nat) : Int) := by decide +kernel
  have h := this ⟨y - 2000, by omega⟩
  rw [show 2000 + (y - 2000) = y by omega] at h
  exact h
theorem valN_year (y : Nat) (h1 : 2000 ≤ y) (h2 : y ≤ 2110) : valN (Lib.decDigits y) = y := by
  rw [← lastD_year y (by omega) (by omega)]
  have : ∀ j : Fin 111, valN (lastD (2000 + j.1) 4) = 2000 + j.1 := by decide +kernel
  have h := this ⟨y - 2000, by omega⟩
  rw [show 2000 + (y - 2000) = y by omega] at h
  exact h

/-- The three parts of a date's text. -/
theorem parts_of (Y M D : List UInt8) (hY : Y.length = 4) (hM : M.length = 2) (hD : D.length = 2) (s : ByteArray) (hs : Y ++ [45] ++ M ++ [45] ++ D = s.data.toList) :
    s.size = 10 ∧ (s.extract 0 4).data.toList = Y ∧ (s.extract 5 7).data.toList = M ∧ (s.extract 8 10).data.toList = D := by
  have hz : s.size = s.data.toList.length := rfl
  rw [Lib.extract_data, Lib.extract_data, Lib.extract_data, hz, ← hs]
  match Y, hY, M, hM, D, hD with
  | [a, b, c, d], _, [e, f], _, [g, h], _ => exact ⟨rfl, rfl, rfl, rfl⟩

/-- What a text is: that of a day, or none. -/
theorem text_kind (s : ByteArray) : (∃ n, IsText n s.data.toList) ∨ (¬ ∃ n, IsText n s.data.toList) := Classical.em _

theorem num_text (a b c : Int) (h : numE a b c = 0) : ∃ T, IsText (numV a b c) T := by
  obtain ⟨K, -, -, -, h0, -, -, -⟩ := date_num a b c h
  exact text_ex _ h0

theorem parse_any (s : ByteArray) (hs : s.size ≤ 100) : ∃ v q : Int,
    Hid (∀ w, MTab w → Tab w → Syn w → Calls Tryd.prog 15 #[.string s] w fun e w' => e = .returned (.tuple #[.int .i64 v, .int .i64 q]) ∧ Below w.heap.size w w') ∧
    Hid (∀ w, Calls Tryd.prog 16 #[.string s] w fun e w' => e = .returned (.tuple #[.int .i64 v, .int .i64 q]) ∧ Below w.heap.size w w') ∧
    ((IsText v s.data.toList ∧ q = 0) ∨ ((¬ ∃ n, IsText n s.data.toList) ∧ v = 0 ∧ q = 8)) := by
  by_cases h10 : s.size = 10
  · have go : ∀ (a b c : Int), (q : Int) → q = numE a b c → ∀ (v : Int), v = (if q = 0 then numV a b c else 0) → ∃ T, (q = 0 → IsText v T) := fun a b c q hq v hv => by
      by_cases h0 : q = 0
      · obtain ⟨T, hT⟩ := num_text a b c (by rw [← hq]; exact h0)
        exact ⟨T, fun _ => by rw [hv, if_pos h0]; exact hT⟩
      · exact ⟨[], fun h => absurd h h0⟩
    have anyT : ∀ v : Int, (0 ≤ v ∧ v ≤ 40000) → ∃ T, IsText v T := fun v hv => text_ex v hv
    obtain ⟨a, ha⟩ : ∃ a, (Lib.atoi (s.extract 0 4).data.toList).getD 0 = a := ⟨_, rfl⟩
    obtain ⟨b, hb⟩ : ∃ a, (Lib.atoi (s.extract 5 7).data.toList).getD 0 = a := ⟨_, rfl⟩
    obtain ⟨c, hc⟩ : ∃ a, (Lib.atoi (s.extract 8 10).data.toList).getD 0 = a := ⟨_, rfl⟩
    obtain ⟨a', ha'⟩ : ∃ a, valN (s.extract 0 4).data.toList = a := ⟨_, rfl⟩
    obtain ⟨b', hb'⟩ : ∃ a, valN (s.extract 5 7).data.toList = a := ⟨_, rfl⟩
    obtain ⟨c', hc'⟩ : ∃ a, valN (s.extract 8 10).data.toList = a := ⟨_, rfl⟩
    have tx : ∀ a b c : Int, ∃ T, IsText (if numE a b c = 0 then numV a b c else 0) T := fun a b c => by
      by_cases h0 : numE a b c = 0
      · rw [if_pos h0]; exact num_text a b c h0
      · rw [if_neg h0]; exact text_ex 0 (by decide)
    obtain ⟨T, hT⟩ := tx a b c
    obtain ⟨T', hT'⟩ := tx a' b' c'
    have P1 := fun w h1 h2 h3 => parse_walk s h10 a b c _ (numE a b c) T 0 ha hb hc (Lib.hid fun W hW => number_any a b c W hW) (Lib.hid fun W h1 h2 => text_of hT W h1 h2) w h1 h2 h3
    have P2 := fun w => refParse_walk s h10 a' b' c' _ (numE a' b' c') T' ha' hb' hc' (Lib.hid fun W => refNumber_any a' b' c' W) (Lib.hid fun _ W => refText_of hT' W) w
    by_cases hk : ∃ n, IsText n s.data.toList
    · obtain ⟨n, hn⟩ := hk
      have hn' := hn
      obtain ⟨K, y, m, d, k1, k2, k3, k4, h0, k5, k6, k7, hT0⟩ := hn'
      have yb : 2000 ≤ y ∧ y ≤ 2110 := by have : Cal.yr K = 2000 + ((K / 12 : Nat) : Int) := rfl; omega
      have mb : m ≤ 12 := by have := (Cal.mo_bd K).2; omega
      have db : d ≤ 31 := by have := Cal.len_bd K; have hl : Cal.cum (K + 1) = Cal.cum K + Cal.len K := rfl; omega
      obtain ⟨-, p1, p2, p3⟩ := parts_of (Lib.decDigits y) (two m) (two d) (year_len y (by omega) (by omega)) (two_len m (by omega)) (two_len d (by omega)) s hT0.symm
      rw [p1, atoi_year y yb.1 yb.2] at ha
      rw [p2, atoi_two m (by omega)] at hb
      rw [p3, atoi_two d (by omega)] at hc
      rw [p1, valN_year y yb.1 yb.2] at ha'
      rw [p2, valN_two m (by omega)] at hb'
      rw [p3, valN_two d (by omega)] at hc'
      simp only [Option.getD_some] at ha hb hc
      subst ha hb hc ha' hb' hc'
      obtain ⟨z1, z2⟩ := num_date n K k2 k3 k4 h0
      rw [← k5, ← k6, ← k7] at z1 z2
      rw [if_pos z1, z2] at hT hT'
      obtain rfl := text_uniq hT hn
      obtain rfl := text_uniq hT' hn
      refine ⟨n, 0, Lib.hid fun w h1 h2 h3 => ?_, Lib.hid fun w => ?_, Or.inl ⟨hn, rfl⟩⟩
      · have := P1 w h1 h2 h3
        rw [z1, z2] at this
        simpa using this
      · have := P2 w
        rw [z1, z2] at this
        simpa using this
    · have n1 : ¬ (numE a b c = 0 ∧ T = s.data.toList) := fun h => hk ⟨_, h.2 ▸ hT⟩
      have n2 : ¬ (numE a' b' c' = 0 ∧ T' = s.data.toList) := fun h => hk ⟨_, h.2 ▸ hT'⟩
      refine ⟨0, 8, Lib.hid fun w h1 h2 h3 => ?_, Lib.hid fun w => ?_, Or.inr ⟨hk, rfl, rfl⟩⟩
      · have := P1 w h1 h2 h3
        rw [if_neg n1, if_neg n1] at this
        exact this
      · have := P2 w
        rw [if_neg n2, if_neg n2] at this
        exact this
  · refine ⟨0, 8, Lib.hid fun w _ _ _ => (parse_len s h10 w).mono fun e w' ⟨h1, h2⟩ => ⟨h1, h2 ▸ Below.refl _ _⟩, Lib.hid fun w => (refParse_len s h10 w).mono fun e w' ⟨h1, h2⟩ => ⟨h1, h2 ▸ Below.refl _ _⟩, Or.inr ⟨?_, rfl, rfl⟩⟩
    rintro ⟨n, K, y, m, d, k1, k2, k3, k4, h0, k5, k6, k7, hT0⟩
    have yb : 2000 ≤ y ∧ y ≤ 2110 := by have : Cal.yr K = 2000 + ((K / 12 : Nat) : Int) := rfl; omega
    have mb : m ≤ 12 := by have := (Cal.mo_bd K).2; omega
    have db : d ≤ 31 := by have := Cal.len_bd K; have hl : Cal.cum (K + 1) = Cal.cum K + Cal.len K := rfl; omega
    exact h10 (parts_of (Lib.decDigits y) (two m) (two d) (year_len y (by omega) (by omega)) (two_len m (by omega)) (two_len d (by omega)) s hT0.symm).1

end Go.Proofs.YthnipdcdiffioabDoor
