/- The plain mathematics of disks. Nothing of the program is imported. -/
namespace Go.Proofs.Ytenddmcepfkbaaa.Dsk

structure Dk where
  st : List UInt8
  pd : List (Nat × ByteArray)
  off : Bool
  armed : Bool
  aft : Int
  tw : Int
  tb : Int

/-- A text over the contents from a sector's start on. -/
def put (st : List UInt8) (s : Nat) (t : List UInt8) : List UInt8 := st.take (64 * s) ++ t ++ st.drop (64 * s + t.length)
theorem put_len {st : List UInt8} {s : Nat} {t : List UInt8} (h : 64 * s + t.length ≤ st.length) : (put st s t).length = st.length := by
  unfold put
  simp only [List.length_append, List.length_take, List.length_drop]
  omega
def settle (st : List UInt8) (l : List (Nat × ByteArray)) : List UInt8 := l.foldl (fun st p => put st p.1 p.2.data.toList) st
theorem settle_nil (st : List UInt8) : settle st [] = st := rfl
theorem settle_snoc (st : List UInt8) (l : List (Nat × ByteArray)) (p : Nat × ByteArray) : settle st (l ++ [p]) = put (settle st l) p.1 p.2.data.toList := by simp [settle]
theorem settle_len {n : Nat} : ∀ (l : List (Nat × ByteArray)) (st : List UInt8), st.length = 64 * n → (∀ p ∈ l, p.1 < n ∧ p.2.size = 64) → (settle st l).length = 64 * n
  | [], _, h, _ => h
  | p :: l, st, h, hp => by
    have h1 := hp p List.mem_cons_self
    have h2 : p.2.data.toList.length = 64 := h1.2
    refine settle_len l _ ?_ (fun q hq => hp q (List.mem_cons_of_mem _ hq))
    rw [put_len (by omega), h]

/-- A number cut to the range from 0 to m. -/
def cl (k : Int) (m : Nat) : Nat := if k < 0 then 0 else if k < m then k.toNat else m
theorem cl_le (k : Int) (m : Nat) : cl k m ≤ m := by unfold cl; split <;> (try split) <;> omega
theorem cl_cases (k : Int) (m : Nat) : (k < 0 ∧ cl k m = 0) ∨ (0 ≤ k ∧ k < m ∧ (cl k m : Int) = k) ∨ (m ≤ k ∧ cl k m = m) := by
  unfold cl
  split
  · exact Or.inl ⟨by assumption, rfl⟩
  · split
    · exact Or.inr (Or.inl ⟨by omega, by assumption, by omega⟩)
    · exact Or.inr (Or.inr ⟨by omega, rfl⟩)

structure ok (n : Nat) (D : Dk) : Prop where
  st : D.st.length = 64 * n
  pd : ∀ p ∈ D.pd, p.1 < n ∧ p.2.size = 64
  n1 : 1 ≤ n
  n2 : n ≤ 8000
  few : D.pd.length ≤ 1000000

/-- The first bytes of the next write, over what is settled. -/
def torn (st : List UInt8) (pd : List (Nat × ByteArray)) (k m : Nat) : List UInt8 :=
  match pd[k]? with
  | some p => put st p.1 (p.2.data.toList.take m)
  | none => st
def fail (D : Dk) (w b : Int) : Dk :=
  if D.off then D else
    { D with st := torn (settle D.st (D.pd.take (cl w D.pd.length))) D.pd (cl w D.pd.length) (cl b 64), pd := [], off := true, armed := false }
theorem fail_ok {n : Nat} {D : Dk} (h : ok n D) (w b : Int) : ok n (fail D w b) := by
  unfold fail
  split
  · exact h
  · have h1 : (settle D.st (D.pd.take (cl w D.pd.length))).length = 64 * n := settle_len _ _ h.st fun p hp => h.pd p (List.mem_of_mem_take hp)
    refine ⟨?_, by simp, h.n1, h.n2, by simp⟩
    show (torn _ _ _ _).length = _
    unfold torn
    split
    · rename_i p hp
      have hm := h.pd p (List.mem_of_getElem? hp)
      have h2 : p.2.data.toList.length = 64 := hm.2
      rw [put_len (by rw [List.length_take]; omega), h1]
    · exact h1
def surviveD (D : Dk) : Dk := if D.armed then (if 0 < D.aft then { D with aft := D.aft - 1 } else fail D D.tw D.tb) else D
def surviveE (D : Dk) : Int := if D.armed then (if 0 < D.aft then 0 else 18) else 0
theorem survive_ok {n : Nat} {D : Dk} (h : ok n D) : ok n (surviveD D) := by
  unfold surviveD
  split
  · split
    · exact ⟨h.st, h.pd, h.n1, h.n2, h.few⟩
    · exact fail_ok h _ _
  · exact h
def has (n : Nat) (s : Int) : Bool := decide (0 ≤ s) && decide (s < n)
theorem has_iff {n : Nat} {s : Int} : has n s = true ↔ 0 ≤ s ∧ s < n := by simp [has]
theorem has_no {n : Nat} {s : Int} (h : ¬ (0 ≤ s ∧ s < n)) : has n s = false := by
  cases hb : has n s
  · rfl
  · exact absurd (has_iff.1 hb) h
def added (D : Dk) (s : Int) (t : ByteArray) : Dk := { D with pd := D.pd ++ [(s.toNat, t)] }
def writeD (n : Nat) (D : Dk) (s : Int) (t : ByteArray) : Dk :=
  if D.off then D else if has n s && (t.size == 64) then surviveD (added D s t) else D
def writeE (n : Nat) (D : Dk) (s : Int) (t : ByteArray) : Int :=
  if D.off then 18 else if has n s && (t.size == 64) then surviveE D else 1
theorem added_ok {n : Nat} {D : Dk} (h : ok n D) {s : Int} {t : ByteArray} (hs : has n s = true) (ht : t.size = 64) (hf : D.pd.length < 1000000) : ok n (added D s t) := by
  have h1 := has_iff.1 hs
  refine ⟨h.st, ?_, h.n1, h.n2, by show (D.pd ++ [_]).length ≤ _; rw [List.length_append]; simp; omega⟩
  intro p hp
  rcases List.mem_append.1 hp with h2 | h2
  · exact h.pd p h2
  · rw [List.mem_singleton.1 h2]
    exact ⟨by show s.toNat < n; omega, ht⟩
def syncD (D : Dk) : Dk :=
  if D.off then D else if surviveE D = 0 then { surviveD D with st := settle (surviveD D).st (surviveD D).pd, pd := [] } else surviveD D
def syncE (D : Dk) : Int := if D.off then 18 else surviveE D
theorem sync_ok {n : Nat} {D : Dk} (h : ok n D) : ok n (syncD D) := by
  have h1 := survive_ok h
  unfold syncD
  split
  · exact h
  · split
    · exact ⟨settle_len _ _ h1.st h1.pd, by simp, h.n1, h.n2, by simp⟩
    · exact h1
def armD (D : Dk) (a w b : Int) : Dk := if D.off then D else { D with armed := decide (0 ≤ a), aft := a, tw := w, tb := b }
theorem arm_ok {n : Nat} {D : Dk} (h : ok n D) (a w b : Int) : ok n (armD D a w b) := by
  unfold armD
  split
  · exact h
  · exact ⟨h.st, h.pd, h.n1, h.n2, h.few⟩
def startD (D : Dk) : Dk := { D with off := false, armed := false }
theorem start_ok {n : Nat} {D : Dk} (h : ok n D) : ok n (startD D) := ⟨h.st, h.pd, h.n1, h.n2, h.few⟩
/-- The stable bytes of a sector. -/
def bytes (st : List UInt8) (s : Nat) : List UInt8 := (st.drop (64 * s)).take 64
/-- The last pending text of a sector, or its bytes. -/
def lastP (pd : List (Nat × ByteArray)) (s : Nat) : Option ByteArray := (pd.reverse.find? fun p => p.1 == s).map (·.2)
def seen (D : Dk) (s : Nat) : ByteArray := match lastP D.pd s with | some t => t | none => ⟨(bytes D.st s).toArray⟩
def readV (n : Nat) (D : Dk) (s : Int) : ByteArray := if D.off then ⟨#[]⟩ else if has n s then seen D s.toNat else ⟨#[]⟩
def readE (n : Nat) (D : Dk) (s : Int) : Int := if D.off then 18 else if has n s then 0 else 1
def zero (n : Nat) : Dk := ⟨List.replicate (64 * n) 0, [], false, false, 0, 0, 0⟩
theorem zero_ok {n : Nat} (h1 : 1 ≤ n) (h2 : n ≤ 8000) : ok n (zero n) := ⟨by simp [zero], by simp [zero], h1, h2, by simp [zero]⟩
def rotB (n : Nat) (s a m : Int) : Bool := has n s && (decide (0 ≤ a) && decide (a < 64) && (decide (1 ≤ m) && decide (m ≤ 255)))
theorem rotB_iff {n : Nat} {s a m : Int} : rotB n s a m = true ↔ (0 ≤ s ∧ s < n) ∧ (0 ≤ a ∧ a < 64) ∧ 1 ≤ m ∧ m ≤ 255 := by simp [rotB, has]
def rotAt (st : List UInt8) (i : Nat) (m : Int) : List UInt8 := st.set i ((st[i]?.getD 0) ^^^ UInt8.ofNat m.toNat)
def rotD (n : Nat) (D : Dk) (s a m : Int) : Dk := if rotB n s a m then { D with st := rotAt D.st (64 * s.toNat + a.toNat) m } else D
theorem rot_ok {n : Nat} {D : Dk} (h : ok n D) (s a m : Int) : ok n (rotD n D s a m) := by
  unfold rotD
  split
  · exact ⟨by show (rotAt _ _ _).length = _; unfold rotAt; rw [List.length_set]; exact h.st, h.pd, h.n1, h.n2, h.few⟩
  · exact h
/-- From the end on, up to i, no pending write is the sector's. -/
theorem lastP_none {pd : List (Nat × ByteArray)} {s : Nat} (h : ∀ j, (hj : j < pd.length) → pd[j].1 ≠ s) : lastP pd s = none := by
  unfold lastP
  rw [Option.map_eq_none_iff, List.find?_eq_none]
  intro p hp
  obtain ⟨j, hj, rfl⟩ := List.getElem_of_mem (List.mem_reverse.1 hp)
  simpa using h j hj
theorem lastP_some {pd : List (Nat × ByteArray)} {s i : Nat} (hi : i < pd.length) (he : pd[i].1 = s) (h : ∀ j, (hj : j < pd.length) → i < j → pd[j].1 ≠ s) : lastP pd s = some pd[i].2 := by
  have e : pd = pd.take i ++ pd[i] :: pd.drop (i + 1) := by rw [List.getElem_cons_drop, List.take_append_drop]
  unfold lastP
  have e2 : pd.reverse = (pd.drop (i + 1)).reverse ++ pd[i] :: (pd.take i).reverse := by
    conv => lhs; rw [e]
    simp
  rw [e2, List.find?_append]
  have h1 : (pd.drop (i + 1)).reverse.find? (fun p => p.1 == s) = none := by
    rw [List.find?_eq_none]
    intro p hp
    obtain ⟨j, hj, rfl⟩ := List.getElem_of_mem (List.mem_reverse.1 hp)
    rw [List.length_drop] at hj
    rw [List.getElem_drop]
    simpa using h (i + 1 + j) (by omega) (by omega)
  rw [h1]
  simp [he]

end Go.Proofs.Ytenddmcepfkbaaa.Dsk
