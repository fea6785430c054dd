/- The closure of what tasks need, as it is computed: its mathematics. -/
import Derived.Test.YtejgbfaampllaaaTskPath
namespace Go.Proofs.Ytejgbfaampllaaa.Tsk

/-- A path all of whose stops are below r. -/
inductive Via (l : List Tk) (r : Nat) : Nat → Nat → Prop
  | one {i j : Nat} : j ∈ needsAt l i → Via l r i j
  | join {i m k : Nat} : Via l r i m → m < r → Via l r m k → Via l r i k
theorem Via.path {l : List Tk} {r i k : Nat} (h : Via l r i k) : Path l i k := by
  induction h with
  | one h => exact .one h
  | join _ _ _ h1 h2 => exact h1.trans h2
theorem Via.zero {l : List Tk} {i k : Nat} (h : Via l 0 i k) : k ∈ needsAt l i := by
  cases h with
  | one h => exact h
  | join _ h _ => omega
theorem Via.split {l : List Tk} {r i k : Nat} (h : Via l (r + 1) i k) : Via l r i k ∨ (Via l r i r ∧ Via l r r k) := by
  induction h with
  | one h => exact Or.inl (.one h)
  | @join i m k _ hm _ h1 h2 =>
    by_cases e : m = r
    · subst e
      refine Or.inr ⟨?_, ?_⟩
      · rcases h1 with h1 | h1
        · exact h1
        · exact h1.1
      · rcases h2 with h2 | h2
        · exact h2
        · exact h2.2
    · have hm : m < r := by omega
      rcases h1 with h1 | h1 <;> rcases h2 with h2 | h2
      · exact Or.inl (.join h1 hm h2)
      · exact Or.inr ⟨.join h1 hm h2.1, h2.2⟩
      · exact Or.inr ⟨h1.1, .join h1.2 hm h2⟩
      · exact Or.inr ⟨h1.1, h2.2⟩
theorem via_of {l : List Tk} (hv : validB l = true) {i k : Nat} (h : Path l i k) : Via l l.length i k := by
  induction h with
  | one h => exact .one h
  | cons h _ ih => exact .join (.one h) (needsAt_lt hv _ h) ih
/-- What holds while the closure is computed. -/
structure ViaP (l : List Tk) (n r i k : Nat) (R : Nat → List Bool) : Prop where
  len : ∀ p, p < n → (R p).length = n
  sound : ∀ p q, p < n → q < n → dn (R p) q = true → Path l p q
  base : ∀ p q, p < n → q < n → Via l r p q → dn (R p) q = true
  done : ∀ p q, p < n → q < n → (p < i ∨ p = i ∧ q < k) → Via l (r + 1) p q → dn (R p) q = true
def putR (R : Nat → List Bool) (i k : Nat) (v : Bool) : Nat → List Bool := fun p => if p = i then (R i).set k v else R p
theorem dn_set2 {G : List Bool} {i x : Nat} {v : Bool} : dn (G.set i v) x = if i = x ∧ i < G.length then v else dn G x := by
  unfold dn
  rw [List.getD_eq_getElem?_getD, List.getD_eq_getElem?_getD, List.getElem?_set]
  by_cases e : i = x
  · subst e
    by_cases hl : i < G.length
    · simp [hl]
    · simp [hl]
  · simp [e]
theorem dn_putR {R : Nat → List Bool} {i k p q : Nat} {v : Bool} (hl : k < (R i).length) : dn (putR R i k v p) q = if p = i ∧ q = k then v else dn (R p) q := by
  unfold putR
  by_cases e : p = i
  · subst e
    rw [if_pos rfl, dn_set2]
    by_cases e2 : q = k
    · subst e2; rw [if_pos ⟨rfl, hl⟩, if_pos ⟨rfl, rfl⟩]
    · rw [if_neg (fun h => e2 h.1.symm), if_neg (fun h => e2 h.2)]
  · rw [if_neg e, if_neg (fun h => e h.1)]
theorem putR_len {R : Nat → List Bool} {n i k : Nat} {v : Bool} (h : ∀ p, p < n → (R p).length = n) (hi : i < n) : ∀ p, p < n → (putR R i k v p).length = n := by
  intro p hp
  unfold putR
  split
  · rw [List.length_set]; exact h i hi
  · exact h p hp
theorem ViaP.step {l : List Tk} {n r i k : Nat} {R : Nat → List Bool} (h : ViaP l n r i k R) (hi : i < n) (hk : k < n) (hr : r < n) :
    ViaP l n r i (k + 1) (putR R i k (dn (R i) k || dn (R i) r && dn (R r) k)) := by
  have hl : k < (R i).length := by rw [h.len i hi]; exact hk
  have hmono : ∀ p q, dn (R p) q = true → dn (putR R i k (dn (R i) k || dn (R i) r && dn (R r) k) p) q = true := fun p q hx => by
    rw [dn_putR hl]
    split
    · rename_i e
      rw [← e.1, ← e.2, hx]; rfl
    · exact hx
  refine ⟨putR_len h.len hi, fun p q hp hq hx => ?_, fun p q hp hq hx => hmono p q (h.base p q hp hq hx), fun p q hp hq hpq hx => ?_⟩
  · rw [dn_putR hl] at hx
    by_cases e : p = i ∧ q = k
    · rw [if_pos e] at hx
      obtain ⟨rfl, rfl⟩ := e
      rw [Bool.or_eq_true, Bool.and_eq_true] at hx
      rcases hx with hx | ⟨hx, hy⟩
      · exact h.sound _ _ hp hq hx
      · exact (h.sound _ _ hp hr hx).trans (h.sound _ _ hr hq hy)
    · rw [if_neg e] at hx
      exact h.sound p q hp hq hx
  · by_cases e : p = i ∧ q = k
    · obtain ⟨rfl, rfl⟩ := e
      rw [dn_putR hl, if_pos ⟨rfl, rfl⟩]
      rcases hx.split with h1 | ⟨h1, h2⟩
      · rw [h.base _ _ hp hq h1]; rfl
      · rw [h.base _ _ hp hr h1, h.base _ _ hr hq h2]; simp
    · exact hmono p q (h.done p q hp hq (by omega) hx)
theorem ViaP.next {l : List Tk} {n r i : Nat} {R : Nat → List Bool} (h : ViaP l n r i n R) : ViaP l n r (i + 1) 0 R :=
  ⟨h.len, h.sound, h.base, fun p q hp hq hpq hx => h.done p q hp hq (by omega) hx⟩
theorem ViaP.round {l : List Tk} {n r : Nat} {R : Nat → List Bool} (h : ViaP l n r n 0 R) : ViaP l n (r + 1) 0 0 R :=
  ⟨h.len, h.sound, fun p q hp hq hx => h.done p q hp hq (by omega) hx, fun p q _ _ hpq => by omega⟩
theorem ViaP.ends {l : List Tk} {n : Nat} {R : Nat → List Bool} (hv : validB l = true) (hn : n = l.length) (h : ViaP l n n 0 0 R) {p q : Nat} (hp : p < n) (hq : q < n) : dn (R p) q = true ↔ Path l p q :=
  ⟨h.sound p q hp hq, fun hx => h.base p q hp hq (by have := via_of hv hx; rwa [← hn] at this)⟩
theorem ViaP.start {l : List Tk} {n : Nat} {R : Nat → List Bool} (hR : ∀ p, p < n → R p = doneOf n (needsAt l p)) : ViaP l n 0 0 0 R := by
  refine ⟨fun p hp => by rw [hR p hp, doneOf_len], fun p q hp hq hx => ?_, fun p q hp hq hx => ?_, fun p q _ _ hpq => by omega⟩
  · rw [hR p hp, dn_doneOf hq] at hx
    exact .one (of_decide_eq_true hx)
  · rw [hR p hp, dn_doneOf hq]
    exact decide_eq_true hx.zero

end Go.Proofs.Ytejgbfaampllaaa.Tsk
