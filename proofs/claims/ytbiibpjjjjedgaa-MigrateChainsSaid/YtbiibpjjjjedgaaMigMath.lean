/- The plain mathematics of lives that are counted in another way. Nothing of the program is imported. -/
import Derived.Test.YtbiibpjjjjedgaaIvlMath
namespace Go.Proofs.Ytbiibpjjjjedgaa.Mig

def usedB (l h : Int) : Bool := Ivl.validB l h && decide (0 ≤ l)
def limB (n : Int) : Bool := decide (1 ≤ n) && decide (n ≤ 1000000000000)
theorem used_iff {l h : Int} : usedB l h = true ↔ 0 ≤ l ∧ l ≤ h ∧ h ≤ 1000000000000 := by
  unfold usedB
  rw [Bool.and_eq_true, Ivl.valid_iff, decide_eq_true_eq]
  omega
theorem lim_iff {n : Int} : limB n = true ↔ 1 ≤ n ∧ n ≤ 1000000000000 := by simp [limB]
theorem lim_no {n : Int} (h : ¬ (1 ≤ n ∧ n ≤ 1000000000000)) : limB n = false := by
  cases hb : limB n
  · rfl
  · exact absurd (lim_iff.1 hb) h
/-- A number times a new limit, divided by the old one, rounded down and up. -/
def down (n c d : Int) : Int := n * d / c
def up (n c d : Int) : Int := (n * d + (c - 1)) / c

theorem down_le {n c d : Int} (hc : 1 ≤ c) : down n c d * c ≤ n * d := Int.ediv_mul_le _ (by omega)
theorem down_lt {n c d : Int} (hc : 1 ≤ c) : n * d < (down n c d + 1) * c := Int.lt_ediv_add_one_mul_self _ (by omega)
theorem up_ge {n c d : Int} (hc : 1 ≤ c) : n * d ≤ up n c d * c := by
  have h := Int.lt_ediv_add_one_mul_self (n * d + (c - 1)) (show 0 < c by omega)
  have e : (up n c d + 1) * c = up n c d * c + c := by rw [Int.add_mul, Int.one_mul]
  unfold up at *
  omega
theorem up_lt {n c d : Int} (hc : 1 ≤ c) : (up n c d - 1) * c < n * d := by
  have h : up n c d * c ≤ n * d + (c - 1) := Int.ediv_mul_le _ (by omega)
  have e : (up n c d - 1) * c = up n c d * c - c := by rw [Int.sub_mul, Int.one_mul]
  omega
theorem le_down {n c d q : Int} (hc : 1 ≤ c) (h : q * c ≤ n * d) : q ≤ down n c d := (Int.le_ediv_iff_mul_le (by omega)).2 h
theorem down_lt_of {n c d q : Int} (hc : 1 ≤ c) (h : n * d < q * c) : down n c d < q := (Int.ediv_lt_iff_lt_mul (by omega)).2 h
theorem up_le {n c d q : Int} (hc : 1 ≤ c) (h : n * d ≤ q * c) : up n c d ≤ q := by
  have e : (q + 1) * c = q * c + c := by rw [Int.add_mul, Int.one_mul]
  have : up n c d < q + 1 := (Int.ediv_lt_iff_lt_mul (by omega)).2 (by omega)
  omega
theorem lt_up {n c d q : Int} (hc : 1 ≤ c) (h : q * c < n * d) : q < up n c d := by
  rcases Int.lt_or_le q (up n c d) with h1 | h1
  · exact h1
  · have h2 := up_ge (n := n) (d := d) hc
    have h3 : up n c d * c ≤ q * c := Int.mul_le_mul_of_nonneg_right h1 (by omega)
    omega
theorem down_nonneg {n c d : Int} (hn : 0 ≤ n) (hc : 1 ≤ c) (hd : 1 ≤ d) : 0 ≤ down n c d :=
  le_down hc (by have := Int.mul_nonneg hn (show 0 ≤ d by omega); omega)
theorem down_le_up {l h c d : Int} (hl : l ≤ h) (hc : 1 ≤ c) (hd : 1 ≤ d) : down l c d ≤ up h c d := by
  have h1 := down_le (n := l) (d := d) hc
  have h2 : l * d ≤ h * d := Int.mul_le_mul_of_nonneg_right hl (by omega)
  have h3 := up_ge (n := h) (d := d) hc
  rcases Int.lt_or_le (up h c d) (down l c d) with h4 | h4
  · have h5 : (up h c d + 1) * c ≤ down l c d * c := Int.mul_le_mul_of_nonneg_right (by omega) (by omega)
    have e : (up h c d + 1) * c = up h c d * c + c := by rw [Int.add_mul, Int.one_mul]
    omega
  · exact h4
theorem down_mono {l h c d e : Int} (hl : l ≤ h) (hl0 : 0 ≤ h) (hc : 1 ≤ c) (hd : 0 ≤ d) (hde : d ≤ e) : down l c d ≤ down h c e :=
  le_down hc (by
    have h1 := down_le (n := l) (d := d) hc
    have h2 : l * d ≤ h * d := Int.mul_le_mul_of_nonneg_right hl hd
    have h3 : h * d ≤ h * e := Int.mul_le_mul_of_nonneg_left hde hl0
    omega)
theorem up_mono {l h c d e : Int} (hl : l ≤ h) (hl0 : 0 ≤ h) (hc : 1 ≤ c) (hd : 0 ≤ d) (hde : d ≤ e) : up l c d ≤ up h c e :=
  up_le hc (by
    have h1 := up_ge (n := h) (d := e) hc
    have h2 : l * d ≤ h * d := Int.mul_le_mul_of_nonneg_right hl hd
    have h3 : h * d ≤ h * e := Int.mul_le_mul_of_nonneg_left hde hl0
    omega)
theorem down_self {n c : Int} (hc : 1 ≤ c) : down n c c = n := Int.mul_ediv_cancel _ (by omega)
theorem up_self {n c : Int} (hc : 1 ≤ c) : up n c c = n := by
  have h1 := up_le (n := n) (d := c) (q := n) hc (Int.le_refl _)
  have h2 := lt_up (n := n) (d := c) (q := n - 1) hc (by rw [Int.sub_mul, Int.one_mul]; omega)
  omega
theorem down_whole {c d : Int} (hc : 1 ≤ c) : down c c d = d := by unfold down; rw [Int.mul_comm]; exact Int.mul_ediv_cancel _ (by omega)
theorem up_whole {c d : Int} (hc : 1 ≤ c) : up c c d = d := by
  have h1 := up_le (n := c) (d := d) (q := d) hc (by rw [Int.mul_comm]; omega)
  have h2 := lt_up (n := c) (d := d) (q := d - 1) hc (by rw [Int.sub_mul, Int.one_mul, Int.mul_comm c d]; omega)
  omega
theorem down_zero {c d : Int} : down 0 c d = 0 := by unfold down; simp
theorem up_zero {c d : Int} (hc : 1 ≤ c) : up 0 c d = 0 := by
  have h1 := up_le (n := 0) (d := d) (q := 0) hc (by omega)
  have h2 := lt_up (n := 0) (d := d) (q := -1) hc (by omega)
  omega
/-- Whether a life may be used up, and surely is. -/
theorem full_high {n c d : Int} (hc : 1 ≤ c) (hd : 1 ≤ d) (h : c ≤ n) : d ≤ up n c d := by
  have h1 : c * d ≤ n * d := Int.mul_le_mul_of_nonneg_right h (by omega)
  have h2 := lt_up (n := n) (d := d) (q := d - 1) hc (by rw [Int.sub_mul, Int.one_mul, Int.mul_comm d c]; omega)
  omega
theorem full_low {n c d : Int} (hc : 1 ≤ c) (hd : 1 ≤ d) : n < c ↔ down n c d < d := by
  constructor
  · intro h
    have h1 : n * d < c * d := Int.mul_lt_mul_of_pos_right h (by omega)
    exact down_lt_of hc (by rw [Int.mul_comm d c]; exact h1)
  · intro h
    rcases Int.lt_or_le n c with h1 | h1
    · exact h1
    · have h2 : c * d ≤ n * d := Int.mul_le_mul_of_nonneg_right h1 (by omega)
      have := le_down (n := n) (d := d) (q := d) hc (by rw [Int.mul_comm d c]; exact h2)
      omega
theorem pos_high {n c d : Int} (hn : 0 ≤ n) (hc : 1 ≤ c) (hd : 1 ≤ d) : 0 < n ↔ 0 < up n c d := by
  constructor
  · intro h
    exact lt_up hc (by have := Int.mul_pos h (show 0 < d by omega); omega)
  · intro h
    rcases Int.lt_or_le 0 n with h1 | h1
    · exact h1
    · have : n = 0 := by omega
      subst this
      rw [up_zero hc] at h
      omega
/-- Two steps are no better than one. -/
theorem down_two {l c d e : Int} (hl : 0 ≤ l) (hc : 1 ≤ c) (hd : 1 ≤ d) (he : 1 ≤ e) {x : Int} (hx : x ≤ down l c d) : down x d e ≤ down l c e := by
  refine le_down hc ?_
  have h1 := down_le (n := x) (d := e) hd
  have h2 := down_le (n := l) (d := d) hc
  have h3 : x * c ≤ down l c d * c := Int.mul_le_mul_of_nonneg_right hx (by omega)
  have h4 : down x d e * d * c ≤ x * e * c := Int.mul_le_mul_of_nonneg_right h1 (by omega)
  have h5 : x * c * e ≤ l * d * e := Int.mul_le_mul_of_nonneg_right (by omega) (by omega)
  have e1 : x * e * c = x * c * e := by rw [Int.mul_right_comm]
  have e2 : down x d e * d * c = down x d e * c * d := by rw [Int.mul_right_comm]
  have e3 : l * d * e = l * e * d := by rw [Int.mul_right_comm]
  have h6 : down x d e * c * d ≤ l * e * d := by omega
  exact Int.le_of_mul_le_mul_right h6 (by omega)
theorem up_two {l c d e : Int} (hc : 1 ≤ c) (hd : 1 ≤ d) (he : 1 ≤ e) {x : Int} (hx : up l c d ≤ x) : up l c e ≤ up x d e := by
  refine up_le hc ?_
  have h1 := up_ge (n := x) (d := e) hd
  have h2 := up_ge (n := l) (d := d) hc
  have h3 : up l c d * c ≤ x * c := Int.mul_le_mul_of_nonneg_right hx (by omega)
  have h4 : x * e * c ≤ up x d e * d * c := Int.mul_le_mul_of_nonneg_right h1 (by omega)
  have h5 : l * d * e ≤ x * c * e := Int.mul_le_mul_of_nonneg_right (by omega) (by omega)
  have e1 : x * e * c = x * c * e := by rw [Int.mul_right_comm]
  have e2 : up x d e * d * c = up x d e * c * d := by rw [Int.mul_right_comm]
  have e3 : l * d * e = l * e * d := by rw [Int.mul_right_comm]
  have h6 : l * e * d ≤ up x d e * c * d := by omega
  exact Int.le_of_mul_le_mul_right h6 (by omega)

/-- The quotient and the remainder give the life rounded up. -/
theorem up_eq {n c d : Int} (hc : 1 ≤ c) : up n c d = n * d / c + if n * d % c = 0 then 0 else 1 := by
  have h1 := Int.mul_ediv_add_emod (n * d) c
  have h2 := Int.emod_nonneg (n * d) (show c ≠ 0 by omega)
  have h3 := Int.emod_lt_of_pos (n * d) (show 0 < c by omega)
  rw [Int.mul_comm] at h1
  split
  · rename_i h0
    have a := up_le (n := n) (d := d) (q := n * d / c) hc (by omega)
    have b := lt_up (n := n) (d := d) (q := n * d / c - 1) hc (by rw [Int.sub_mul, Int.one_mul]; omega)
    omega
  · rename_i h0
    have a := up_le (n := n) (d := d) (q := n * d / c + 1) hc (by rw [Int.add_mul, Int.one_mul]; omega)
    have b := lt_up (n := n) (d := d) (q := n * d / c) hc (by omega)
    omega

/-- Scale's answer. -/
def okB (l h c d : Int) : Bool := usedB l h && (limB c && limB d)
def err (l h c d : Int) : Int := if okB l h c d then (if up h c d ≤ 1000000000000 then 0 else 7) else 1
def lo (l h c d : Int) : Int := if err l h c d = 0 then down l c d else 0
def hi (l h c d : Int) : Int := if err l h c d = 0 then up h c d else 0
theorem ok_iff {l h c d : Int} : okB l h c d = true ↔ (0 ≤ l ∧ l ≤ h ∧ h ≤ 1000000000000) ∧ (1 ≤ c ∧ c ≤ 1000000000000) ∧ (1 ≤ d ∧ d ≤ 1000000000000) := by
  unfold okB
  rw [Bool.and_eq_true, Bool.and_eq_true, used_iff, lim_iff, lim_iff]
theorem err_iff {l h c d : Int} : err l h c d = 0 ↔ okB l h c d = true ∧ up h c d ≤ 1000000000000 := by
  unfold err
  split
  · rename_i h1
    split
    · rename_i h2
      simp [h1, h2]
    · rename_i h2
      simp [h2]
  · rename_i h1
    simp [h1]
theorem err_cases (l h c d : Int) : (okB l h c d = false ∧ err l h c d = 1 ∧ lo l h c d = 0 ∧ hi l h c d = 0) ∨ (okB l h c d = true ∧ 1000000000000 < up h c d ∧ err l h c d = 7 ∧ lo l h c d = 0 ∧ hi l h c d = 0) ∨
    (okB l h c d = true ∧ up h c d ≤ 1000000000000 ∧ err l h c d = 0 ∧ lo l h c d = down l c d ∧ hi l h c d = up h c d) := by
  unfold lo hi
  cases hb : okB l h c d
  · have : err l h c d = 1 := by unfold err; simp [hb]
    refine Or.inl ⟨rfl, this, ?_, ?_⟩ <;> rw [if_neg (by omega)]
  · by_cases hu : up h c d ≤ 1000000000000
    · have : err l h c d = 0 := err_iff.2 ⟨hb, hu⟩
      refine Or.inr (Or.inr ⟨rfl, hu, this, ?_, ?_⟩) <;> rw [if_pos this]
    · have : err l h c d = 7 := by unfold err; simp [hb, hu]
      refine Or.inr (Or.inl ⟨rfl, by omega, this, ?_, ?_⟩) <;> rw [if_neg (by omega)]

/-- What is left of a life. -/
def leftErr (l h c : Int) : Int := if usedB l h && limB c then 0 else 1
def left (n c : Int) : Int := Ivl.imax (c - n) 0

/-- A chain of limits, as pairs. -/
def step (s : Int × Int) (p : Int × Int) : Int × Int := (down s.1 p.1 p.2, up s.2 p.1 p.2)
def run (s : Int × Int) : List (Int × Int) → Option (Int × Int)
  | [] => some s
  | p :: ps => if up s.2 p.1 p.2 ≤ 1000000000000 then run (step s p) ps else none
theorem run_append (s : Int × Int) (a b : List (Int × Int)) : run s (a ++ b) = (run s a).bind fun t => run t b := by
  induction a generalizing s with
  | nil => rfl
  | cons p ps ih =>
    show (if up s.2 p.1 p.2 ≤ 1000000000000 then run (step s p) (ps ++ b) else none) = (if up s.2 p.1 p.2 ≤ 1000000000000 then run (step s p) ps else none).bind _
    split
    · exact ih _
    · rfl
theorem run_snoc {s t : Int × Int} {a : List (Int × Int)} (h : run s a = some t) (p : Int × Int) : run s (a ++ [p]) = if up t.2 p.1 p.2 ≤ 1000000000000 then some (step t p) else none := by
  rw [run_append, h]
  rfl
/-- The pairs of a list, the first k of them. -/
def pairs (zs : List Int) (k : Nat) : List (Int × Int) := (List.range k).map fun j => (zs[j]?.getD 0, zs[j + 1]?.getD 0)
theorem pairs_succ (zs : List Int) (k : Nat) : pairs zs (k + 1) = pairs zs k ++ [(zs[k]?.getD 0, zs[k + 1]?.getD 0)] := by simp [pairs, List.range_succ]
theorem pairs_length (zs : List Int) (k : Nat) : (pairs zs k).length = k := by simp [pairs]
theorem pairs_add (zs : List Int) (k m : Nat) : pairs zs (k + m) = pairs zs k ++ pairs (zs.drop k) m := by
  unfold pairs
  rw [List.range_add, List.map_append, List.map_map]
  congr 1
  refine List.map_congr_left fun j _ => ?_
  simp [Nat.add_assoc]
theorem pairs_take (zs : List Int) (k m : Nat) (h : k < m) : pairs (zs.take m) k = pairs zs k := by
  unfold pairs
  refine List.map_congr_left fun j hj => ?_
  have : j < k := List.mem_range.1 hj
  rw [List.getElem?_take_of_lt (by omega), List.getElem?_take_of_lt (by omega)]
theorem run_none_of {s : Int × Int} {zs : List Int} {k n : Nat} (hk : k ≤ n) (h : run s (pairs zs k) = none) : run s (pairs zs n) = none := by
  obtain ⟨m, rfl⟩ := Nat.exists_eq_add_of_le hk
  rw [pairs_add, run_append, h]
  rfl
/-- Lives stay lives along a chain. -/
theorem run_used {s t : Int × Int} {ps : List (Int × Int)} (hs : 0 ≤ s.1 ∧ s.1 ≤ s.2 ∧ s.2 ≤ 1000000000000) (hp : ∀ p ∈ ps, 1 ≤ p.1 ∧ 1 ≤ p.2) (h : run s ps = some t) : 0 ≤ t.1 ∧ t.1 ≤ t.2 ∧ t.2 ≤ 1000000000000 := by
  induction ps generalizing s with
  | nil =>
    obtain rfl : s = t := Option.some.inj h
    exact hs
  | cons p ps ih =>
    have hq := hp p (by simp)
    simp only [run] at h
    split at h
    · rename_i hu
      exact ih ⟨down_nonneg hs.1 hq.1 hq.2, down_le_up hs.2.1 hq.1 hq.2, hu⟩ (fun q hq => hp q (by simp [hq])) h
    · cases h
theorem pairs_pos {zs : List Int} (hz : ∀ z ∈ zs, 1 ≤ z) {k : Nat} (hk : k + 1 ≤ zs.length ∨ k = 0) : ∀ p ∈ pairs zs k, 1 ≤ p.1 ∧ 1 ≤ p.2 := by
  intro p hp
  obtain ⟨j, hj, rfl⟩ := List.mem_map.1 hp
  have hjk : j < k := List.mem_range.1 hj
  have h1 : j + 1 < zs.length := by omega
  have h0 : j < zs.length := by omega
  simp only [List.getElem?_eq_getElem h1, List.getElem?_eq_getElem h0, Option.getD_some]
  exact ⟨hz _ (List.getElem_mem _), hz _ (List.getElem_mem _)⟩
/-- One step from the first limit to the last one is at least as exact as the chain. -/
theorem run_one {s : Int × Int} {zs : List Int} (hs : 0 ≤ s.1) (hz : ∀ z ∈ zs, 1 ≤ z) {k : Nat} (hk : k + 1 ≤ zs.length) {t : Int × Int} (h : run s (pairs zs k) = some t) :
    t.1 ≤ down s.1 (zs[0]?.getD 0) (zs[k]?.getD 0) ∧ up s.2 (zs[0]?.getD 0) (zs[k]?.getD 0) ≤ t.2 := by
  have pos : ∀ j, j < zs.length → 1 ≤ zs[j]?.getD 0 := fun j hj => by rw [List.getElem?_eq_getElem hj]; exact hz _ (List.getElem_mem _)
  induction k generalizing t with
  | zero =>
    obtain rfl : s = t := Option.some.inj h
    rw [down_self (pos 0 (by omega)), up_self (pos 0 (by omega))]
    omega
  | succ k ih =>
    rw [pairs_succ] at h
    cases hr : run s (pairs zs k) with
    | none => rw [run_append, hr] at h; cases h
    | some u =>
      rw [run_snoc hr] at h
      split at h
      · obtain rfl := Option.some.inj h
        obtain ⟨h1, h2⟩ := ih (by omega) hr
        exact ⟨down_two hs (pos 0 (by omega)) (pos k (by omega)) (pos (k + 1) (by omega)) h1, up_two (pos 0 (by omega)) (pos k (by omega)) (pos (k + 1) (by omega)) h2⟩
      · cases h
/-- Chain's answer. -/
def chainOk (l h : Int) (zs : List Int) : Bool := usedB l h && (decide (1 ≤ zs.length) && (decide (zs.length ≤ 60) && zs.all limB))
def chain (l h : Int) (zs : List Int) : Int × Int × Int :=
  if chainOk l h zs then (match run (l, h) (pairs zs (zs.length - 1)) with | some t => (t.1, t.2, 0) | none => (0, 0, 7)) else (0, 0, 1)
theorem chainOk_iff {l h : Int} {zs : List Int} : chainOk l h zs = true ↔ (0 ≤ l ∧ l ≤ h ∧ h ≤ 1000000000000) ∧ 1 ≤ zs.length ∧ zs.length ≤ 60 ∧ ∀ z ∈ zs, 1 ≤ z ∧ z ≤ 1000000000000 := by
  unfold chainOk
  simp only [Bool.and_eq_true, used_iff, decide_eq_true_eq, List.all_eq_true, lim_iff]

end Go.Proofs.Ytbiibpjjjjedgaa.Mig
