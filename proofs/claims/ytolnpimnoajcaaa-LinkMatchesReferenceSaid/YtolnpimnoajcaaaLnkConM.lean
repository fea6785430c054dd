/- What is reached from the first report of a set, round by round. -/
import Derived.Test.YtolnpimnoajcaaaLnkOfM
import Derived.Test.YtolnpimnoajcaaaLnkComp
import Derived.Test.YtolnpimnoajcaaaMapBool
namespace Go.Proofs.Ytolnpimnoajcaaa
open Go.RowKit Go.Maps Go.WideMaps
open Evt

namespace Lnk
def updB (p : Nat → Bool) (i : Nat) (x : Bool) : Nat → Bool := fun j => if j = i then x else p j
def cntB (p : Nat → Bool) (m : Nat) : Nat := (List.range m).countP p
theorem cnt_succ (p : Nat → Bool) (m : Nat) : cntB p (m + 1) = cntB p m + if p m then 1 else 0 := by
  unfold cntB
  rw [List.range_succ, List.countP_append, List.countP_singleton]
theorem cnt_le (p : Nat → Bool) (m : Nat) : cntB p m ≤ m := by
  unfold cntB
  have := List.countP_le_length (p := p) (l := List.range m)
  rwa [List.length_range] at this
theorem cnt_mono {p q : Nat → Bool} : ∀ {m : Nat}, (∀ i, i < m → p i = true → q i = true) → cntB p m ≤ cntB q m
  | 0, _ => Nat.le_refl _
  | m + 1, h => by
    have ih := cnt_mono (m := m) (fun i hi => h i (by omega))
    have hm := h m (by omega)
    rw [cnt_succ, cnt_succ]
    cases hp : p m with
    | false => simp; split <;> omega
    | true => rw [hm hp]; simp; omega
theorem cnt_lt {p q : Nat → Bool} : ∀ {m b : Nat}, (∀ i, i < m → p i = true → q i = true) → b < m → p b = false → q b = true → cntB p m < cntB q m
  | 0, _, _, hb, _, _ => by omega
  | m + 1, b, h, hb, h1, h2 => by
    rw [cnt_succ, cnt_succ]
    by_cases e : b = m
    · subst e
      have := cnt_mono (m := b) (fun i hi => h i (by omega))
      rw [h1, h2]; simp; omega
    · have ih := cnt_lt (m := m) (b := b) (fun i hi => h i (by omega)) (by omega) h1 h2
      have hm := h m (by omega)
      cases hp : p m with
      | false => simp; split <;> omega
      | true => rw [hm hp]; simp; omega
theorem cnt_all {p : Nat → Bool} {m : Nat} (h : m ≤ cntB p m) : ∀ i, i < m → p i = true := by
  intro i hi
  cases hp : p i with
  | true => rfl
  | false =>
    have := cnt_lt (p := p) (q := fun _ => true) (m := m) (b := i) (fun _ _ _ => rfl) hi hp rfl
    have h2 := cnt_le (fun _ => true) m
    omega
/-- A set with each index that shares a name with one of it. -/
theorem conn_closed {n : Nat} {N : Nat → List (List UInt8)} {S : Nat → Prop} (h : ∀ j k x, j < n → k < n → S j → x ∈ N j → x ∈ N k → S k) {a b : Nat} (hc : Conn n N a b) : S a → S b := by
  induction hc with
  | refl => exact id
  | step hj hk _ h1 h2 ih => exact fun hs => h _ _ _ hj hk (ih hs) h1 h2
/-- Within a set there is always a further one that can be reached. -/
def Linked (m : Nat) (M : Nat → List (List UInt8)) : Prop := ∀ p : Nat → Bool, (∃ a, a < m ∧ p a = true) → (∃ b, b < m ∧ p b = false) → ∃ a b x, a < m ∧ b < m ∧ p a = true ∧ p b = false ∧ x ∈ M a ∧ x ∈ M b
theorem linked {n : Nat} {N : Nat → List (List UInt8)} {r : Nat → Nat} (hr : ∀ a b, a < n → b < n → (r a = r b ↔ Conn n N a b)) {t : Nat} (ht : t < (groups r n).length) :
    Linked (groups r n)[t].length (fun k => N ((groups r n)[t].getD k 0)) := by
  intro p ⟨a, ha, hpa⟩ ⟨b, hb, hpb⟩
  apply Classical.byContradiction
  intro hno
  have gd : ∀ k (hk : k < (groups r n)[t].length), (groups r n)[t].getD k 0 = (groups r n)[t][k] := fun k hk => by rw [List.getD_eq_getElem?_getD, List.getElem?_eq_getElem hk]; rfl
  have ma := (group_mem ht).1 (List.getElem_mem ha)
  have mb := (group_mem ht).1 (List.getElem_mem hb)
  have hconn : ∀ j, j < n → at? r n (r j) = some t → r j = r (groups r n)[t][a] := fun j hj hat => by
    obtain ⟨h1, h2⟩ := at_some hat
    obtain ⟨h3, h4⟩ := at_some ma.2
    rw [← h2, ← h4]
  have hab : Conn n N (groups r n)[t][a] (groups r n)[t][b] := (hr _ _ ma.1 mb.1).1 (hconn _ mb.1 mb.2).symm
  have key := conn_closed (S := fun i => ∃ k, ∃ h : k < (groups r n)[t].length, (groups r n)[t][k] = i ∧ p k = true) ?_ hab ⟨a, ha, rfl, hpa⟩
  · obtain ⟨k, hk, e, hpk⟩ := key
    have hnd := List.pairwise_iff_getElem.1 (group_sorted ht)
    have : k = b := by
      rcases Nat.lt_trichotomy k b with h | h | h
      · have := hnd k b hk hb h; omega
      · exact h
      · have := hnd b k hb hk h; omega
    subst this
    rw [hpb] at hpk; cases hpk
  · rintro j k x hj hk ⟨i, hi, rfl, hpi⟩ hx1 hx2
    have mi := (group_mem ht).1 (List.getElem_mem hi)
    have hik : r (groups r n)[t][i] = r k := (hr _ _ hj hk).2 (.step hj hk (.refl _) hx1 hx2)
    have mk : k ∈ (groups r n)[t] := (group_mem ht).2 ⟨hk, by rw [← hik]; exact mi.2⟩
    obtain ⟨q, hq, e⟩ := List.getElem_of_mem mk
    refine ⟨q, hq, e, ?_⟩
    cases hpq : p q with
    | true => rfl
    | false => exact absurd ⟨i, q, x, hi, hq, hpi, hpq, by dsimp only; rw [gd i hi]; exact hx1, by dsimp only; rw [gd q hq, e]; exact hx2⟩ hno
/-- What is so within a round. -/
structure Rnd (m : Nat) (M : Nat → List (List UInt8)) (p0 : Nat → Bool) (h0 : List UInt8 → Bool) (k : Nat) (p : Nat → Bool) (h : List UInt8 → Bool) : Prop where
  pm : ∀ i, p0 i = true → p i = true
  hm : ∀ x, h0 x = true → h x = true
  cl : ∀ i, i < m → p i = true → ∀ x ∈ M i, h x = true
  pr : ∀ i, i < k → (i = 0 ∨ ∃ x ∈ M i, h0 x = true) → p i = true
theorem Rnd.next {m : Nat} {M : Nat → List (List UInt8)} {p0 : Nat → Bool} {h0 : List UInt8 → Bool} {k : Nat} {p : Nat → Bool} {h : List UInt8 → Bool} (R : Rnd m M p0 h0 k p h) {b : Bool} (hb : b = (decide (k = 0) || (p k || (M k).any h))) {h' : List UInt8 → Bool} (hh : ∀ x, h' x = (h x || (b && decide (x ∈ M k)))) :
    Rnd m M p0 h0 (k + 1) (updB p k b) h' := by
  refine ⟨fun i hi => ?_, fun x hx => ?_, fun i hi hp x hx => ?_, fun i hi hc => ?_⟩
  · unfold updB
    by_cases e : i = k
    · subst e
      rw [if_pos rfl, hb, R.pm i hi]; simp
    · rw [if_neg e]; exact R.pm i hi
  · rw [hh, R.hm x hx]; rfl
  · rw [hh]
    unfold updB at hp
    by_cases e : i = k
    · subst e
      rw [if_pos rfl] at hp
      rw [hp, decide_eq_true hx]; simp
    · rw [if_neg e] at hp
      rw [R.cl i hi hp x hx]; rfl
  · unfold updB
    by_cases e : i = k
    · subst e
      rw [if_pos rfl, hb]
      rcases hc with rfl | ⟨x, hx, hx0⟩
      · simp
      · have : (M i).any h = true := List.any_eq_true.2 ⟨x, hx, R.hm x hx0⟩
        rw [this]; simp
    · rw [if_neg e]
      exact R.pr i (by omega) hc
theorem Rnd.start {m : Nat} {M : Nat → List (List UInt8)} {p : Nat → Bool} {h : List UInt8 → Bool} (hc : ∀ i, i < m → p i = true → ∀ x ∈ M i, h x = true) : Rnd m M p h 0 p h := ⟨fun _ h => h, fun _ h => h, hc, fun i hi => by omega⟩
/-- A round reaches one more, or all are reached. -/
theorem Rnd.end {m : Nat} {M : Nat → List (List UInt8)} {p0 : Nat → Bool} {h0 : List UInt8 → Bool} {p : Nat → Bool} {h : List UInt8 → Bool} (R : Rnd m M p0 h0 m p h) (hL : Linked m M) (hc : ∀ i, i < m → p0 i = true → ∀ x ∈ M i, h0 x = true) {t : Nat} (htm : t < m) (ht : t ≤ cntB p0 m) : t + 1 ≤ cntB p m := by
  by_cases hall : ∀ b, b < m → p0 b = true
  · have h1 := cnt_mono (m := m) (p := fun _ => true) (q := p) (fun i hi _ => R.pm i (hall i hi))
    have h2 : cntB (fun _ => true) m = m := by unfold cntB; simp
    omega
  · have hex : ∃ b, b < m ∧ p0 b = false := by
      apply Classical.byContradiction
      intro hno
      apply hall
      intro b hb
      cases hp : p0 b with
      | true => rfl
      | false => exact absurd ⟨b, hb, hp⟩ hno
    by_cases hsome : ∃ a, a < m ∧ p0 a = true
    · obtain ⟨a, b, x, ha, hb, h1, h2, h3, h4⟩ := hL p0 hsome hex
      have := cnt_lt (m := m) (fun i _ hi => R.pm i hi) hb h2 (R.pr b hb (Or.inr ⟨x, h4, hc a ha h1 x h3⟩))
      omega
    · have h0 : p0 0 = false := by
        cases hp : p0 0 with
        | false => rfl
        | true => exact absurd ⟨0, by omega, hp⟩ hsome
      have := cnt_lt (m := m) (fun i _ hi => R.pm i hi) (by omega) h0 (R.pr 0 (by omega) (Or.inl rfl))
      omega
end Lnk

/-! ### In memory -/
def bC (n : Nat) (p : Nat → Bool) : List Value := (List.range n).map fun i => Value.bool (p i)
theorem bC_len (n : Nat) (p : Nat → Bool) : (bC n p).length = n := by unfold bC; simp
theorem bC_get (n : Nat) (p : Nat → Bool) (j : Nat) : (bC n p)[j]? = if j < n then some (.bool (p j)) else none := by
  unfold bC
  by_cases h : j < n <;> simp [h]
/-- Block b holds these Booleans. -/
def IsB (w : World) (b n : Nat) (p : Nat → Bool) : Prop := Whole w b 4 (bC n p).toArray
section
variable {w w' : World} {b n : Nat} {p : Nat → Bool}
theorem IsB.cell (h : IsB w b n p) {i : Nat} (hi : i < n) : w.cell? ⟨b, i, none⟩ = some (.bool (p i)) := by
  rw [Whole.cell h]
  have : i < (bC n p).length := by rw [bC_len]; exact hi
  rw [List.getElem?_toArray, List.getElem?_eq_getElem this]
  simp [bC]
theorem IsB.frozen (h : IsB w b n p) (i : Nat) : w.frozen? ⟨b, i, none⟩ = false := Whole.frozen h i
theorem IsB.set (h : IsB w b n p) (i : Nat) (x : Bool) : IsB (w.setCell ⟨b, i, none⟩ (.bool x)) b n (Lnk.updB p i x) := by
  have := Whole.set h i (.bool x)
  have e : (bC n p).toArray.setIfInBounds i (.bool x) = (bC n (Lnk.updB p i x)).toArray := by
    rw [List.setIfInBounds_toArray]
    congr 1
    apply List.ext_getElem?
    intro j
    rw [List.getElem?_set, bC_get, bC_get, bC_len]
    unfold Lnk.updB
    by_cases e : i = j
    · subst e
      by_cases hi : i < n <;> simp [hi]
    · rw [if_neg e, if_neg (fun h : j = i => e h.symm)]
  rw [e] at this
  exact this
theorem IsB.kept (h : IsB w b n p) {row : Option Nat} (hg : w.grownBy w' row) (hne : row ≠ some b) : IsB w' b n p := whole_grownM h hg hne
theorem IsB.below (h : IsB w b n p) (hb : Below w.heap.size w w') : IsB w' b n p := whole_belowM h hb
theorem IsB.congr {q : Nat → Bool} (h : IsB w b n p) (he : ∀ j, j < n → p j = q j) : IsB w b n q := by
  have e : bC n p = bC n q := by
    apply List.ext_getElem?
    intro j
    rw [bC_get, bC_get]
    by_cases hj : j < n
    · rw [if_pos hj, if_pos hj, he j hj]
    · rw [if_neg hj, if_neg hj]
  unfold IsB at h ⊢
  rw [← e]; exact h
end
theorem info_boolL : (Try.prog.info? 4).map (fun i => (i.zero, i.size, i.bytes)) = some (some (.bool false), 1, 1) := by kernel_rfl
theorem made_bC (n : Nat) : madeCells #[Value.bool false] n = (bC n fun _ => false).toArray := by
  unfold bC
  apply Array.ext'
  apply List.ext_getElem?
  intro j
  by_cases hj : j < n <;> simp [madeCells, hj, Nat.mod_one]
/-- The names that are there, and what is reached. -/
structure CSt (W : World) (rb mb m c : Nat) (p : Nat → Bool) (h : List UInt8 → Bool) (w : World) : Prop where
  ex : ∃ cnt f, Below W.heap.size W w ∧ IsB w rb m p ∧ BMap Try.prog 9 w mb cnt f ∧ cnt ≤ c ∧ ∀ s : List UInt8, (f (.string ⟨s.toArray⟩)).getD false = h s
section
variable {W w w' : World} {rb mb m c : Nat} {p : Nat → Bool} {h : List UInt8 → Bool}
theorem CSt.low (hc : CSt W rb mb m c p h w) : Below W.heap.size W w := by obtain ⟨_, _, h1, _⟩ := hc.ex; exact h1
theorem CSt.isB (hc : CSt W rb mb m c p h w) : IsB w rb m p := by obtain ⟨_, _, _, h1, _⟩ := hc.ex; exact h1
theorem CSt.mono (hc : CSt W rb mb m c p h w) {c' : Nat} (hcc : c ≤ c') : CSt W rb mb m c' p h w := by
  obtain ⟨cnt, f, h1, h2, h3, h4, h5⟩ := hc.ex
  exact ⟨cnt, f, h1, h2, h3, by omega, h5⟩
theorem CSt.below (hc : CSt W rb mb m c p h w) (hb : Below w.heap.size w w') : CSt W rb mb m c p h w' := by
  obtain ⟨cnt, f, h1, h2, h3, h4, h5⟩ := hc.ex
  exact ⟨cnt, f, below_step h1 hb, h2.below hb, h3.below hb h3.lt, h4, h5⟩
theorem CSt.reach (hc : CSt W rb mb m c p h w) (hr : W.heap.size ≤ rb) (hne : mb ≠ rb) (i : Nat) (x : Bool) : CSt W rb mb m c (Lnk.updB p i x) h (w.setCell ⟨rb, i, none⟩ (.bool x)) := by
  obtain ⟨cnt, f, h1, h2, h3, h4, h5⟩ := hc.ex
  have hg := grown_setL (grown_refl w (some rb)) i (.bool x)
  exact ⟨cnt, f, h1.grown hg h1.size (fun y e => by cases e; exact hr), h2.set i x, h3.kept hg (fun e => hne (by injection e)), h4, h5⟩
theorem CSt.congr (hc : CSt W rb mb m c p h w) {q : Nat → Bool} (he : ∀ j, j < m → p j = q j) : CSt W rb mb m c q h w := by
  obtain ⟨cnt, f, h1, h2, h3, h4, h5⟩ := hc.ex
  exact ⟨cnt, f, h1, h2.congr he, h3, h4, h5⟩
theorem CSt.congrH (hc : CSt W rb mb m c p h w) {h' : List UInt8 → Bool} (he : ∀ x, h x = h' x) : CSt W rb mb m c p h' w := by
  obtain ⟨cnt, f, h1, h2, h3, h4, h5⟩ := hc.ex
  exact ⟨cnt, f, h1, h2, h3, h4, fun s => (h5 s).trans (he s)⟩
theorem key_strB {s : List UInt8} (hs : s.length ≤ maxLen) : keyOf Try.prog 9 (.string ⟨s.toArray⟩) = some (.string s) :=
  keyOf_string_mk Try.underlying9 (s := ⟨s.toArray⟩) (by simpa [ByteArray.size] using hs)
set_option maxRecDepth 100000 in
theorem CSt.look (hc : CSt W rb mb m c p h w) {s : List UInt8} (hs : s.length ≤ maxLen) : (Instr.lookup 41 (.map (some mb)) (.string ⟨s.toArray⟩) false).run Try.prog w = .ok (.bool (h s)) w := by
  obtain ⟨cnt, f, h1, h2, h3, h4, h5⟩ := hc.ex
  rw [h3.look str_keys Try.underlying41 (zero_bool w) (key_strB hs), h5]
set_option maxRecDepth 100000 in
theorem CSt.put (hc : CSt W rb mb m c p h w) (hm : W.heap.size ≤ mb) (hne : mb ≠ rb) (hcm : c < maxLen) {s : List UInt8} (hs : s.length ≤ maxLen) :
    ∃ w', (Instr.mapUpdate 41 (.map (some mb)) (.string ⟨s.toArray⟩) (.bool true)).run Try.prog w = .ok () w' ∧ CSt W rb mb m (c + 1) p (fun x => h x || decide (x = s)) w' ∧ w.grownBy w' (some mb) := by
  obtain ⟨cnt, f, h1, h2, h3, h4, h5⟩ := hc.ex
  obtain ⟨w', hrun, h6, h7⟩ := h3.put str_keys Try.underlying41 (by omega) (key_strB hs) true
  refine ⟨w', hrun, ⟨cnt + 1, _, h1.grown h7 h1.size (fun y e => by cases e; exact hm), h2.kept h7 (fun e => hne (by injection e)), h6, by omega, fun u => ?_⟩, h7⟩
  unfold putF
  by_cases e : u = s
  · subst e; simp
  · have : Value.string ⟨u.toArray⟩ ≠ .string ⟨s.toArray⟩ := fun hh => e (by
      injection hh with hh
      injection hh with hh
      simpa using hh)
    rw [if_neg this, h5, decide_eq_false e, Bool.or_false]
theorem CSt.made {w1 w2 : World} (h1 : Below W.heap.size W w1) (hm : mb = w1.heap.size) (e2 : w2 = w1.alloc (.map #[] 0)) (hr : rb = w2.heap.size) : CSt W rb mb m 0 (fun _ => false) (fun _ => false) (w2.alloc (.cells (bC m fun _ => false).toArray 4)) := by
  have hb2 : Below W.heap.size W w2 := by rw [e2]; exact below_alloc h1 _
  have hbm : BMap Try.prog 9 w2 mb 0 (fun _ => none) := by rw [e2, hm]; exact BMap.made _ _ _
  have hb3 : Below w2.heap.size w2 (w2.alloc (.cells (bC m fun _ => false).toArray 4)) := (Below.refl _ _).alloc (Nat.le_refl _) _
  exact ⟨0, _, below_alloc hb2 _, by rw [hr]; exact Whole.new _ _ _, hbm.below hb3 hbm.lt, Nat.le_refl _, fun s => rfl⟩
end
end Go.Proofs.Ytolnpimnoajcaaa
