/- What writes after a Sync and a failure leave of the sectors that were not written. -/
import Derived.Test.YtenddmcepfkbaaaDskTwo
namespace Go.Proofs.Ytenddmcepfkbaaa
open Go.RowKit

theorem put_get {st : List UInt8} {s : Nat} {t : List UInt8} (h : 64 * s + t.length ≤ st.length) (i : Nat) (hi : i < 64 * s ∨ 64 * s + t.length ≤ i) : (Dsk.put st s t)[i]? = st[i]? := by
  unfold Dsk.put
  rcases hi with hi | hi
  · rw [List.append_assoc, List.getElem?_append_left (by rw [List.length_take]; omega), List.getElem?_take, if_pos hi]
  · rw [List.getElem?_append_right (by rw [List.length_append, List.length_take]; omega), List.length_append, List.length_take, List.getElem?_drop]
    congr 1
    omega
theorem bytes_put {st : List UInt8} {s j : Nat} {t : List UInt8} (h : 64 * s + t.length ≤ st.length) (ht : t.length ≤ 64) (hj : s ≠ j) : Dsk.bytes (Dsk.put st s t) j = Dsk.bytes st j := by
  apply List.ext_getElem?
  intro k
  unfold Dsk.bytes
  rw [List.getElem?_take, List.getElem?_take]
  split
  · rw [List.getElem?_drop, List.getElem?_drop]
    exact put_get h _ (by omega)
  · rfl
theorem bytes_settle {n j : Nat} : ∀ (l : List (Nat × ByteArray)) (st : List UInt8), st.length = 64 * n → (∀ p ∈ l, p.1 < n ∧ p.2.size = 64) → (∀ p ∈ l, p.1 ≠ j) → Dsk.bytes (Dsk.settle st l) j = Dsk.bytes st j
  | [], _, _, _, _ => rfl
  | p :: l, st, h, hp, hj => by
    have h1 := hp p List.mem_cons_self
    have h2 : p.2.data.toList.length = 64 := h1.2
    have h3 : 64 * p.1 + p.2.data.toList.length ≤ st.length := by omega
    show Dsk.bytes (Dsk.settle (Dsk.put st p.1 p.2.data.toList) l) j = _
    rw [bytes_settle l _ (by rw [Dsk.put_len h3, h]) (fun q hq => hp q (List.mem_cons_of_mem _ hq)) (fun q hq => hj q (List.mem_cons_of_mem _ hq)), bytes_put h3 (by omega) (hj p List.mem_cons_self)]
theorem bytes_fail {n j : Nat} {D : Dsk.Dk} (h : Dsk.ok n D) (x y : Int) (hj : ∀ p ∈ D.pd, p.1 ≠ j) : Dsk.bytes (Dsk.fail D x y).st j = Dsk.bytes D.st j := by
  unfold Dsk.fail
  split
  · rfl
  · show Dsk.bytes (Dsk.torn _ _ _ _) j = _
    have h1 : (Dsk.settle D.st (D.pd.take (Dsk.cl x D.pd.length))).length = 64 * n := Dsk.settle_len _ _ h.st fun p hp => h.pd p (List.mem_of_mem_take hp)
    have h2 : Dsk.bytes (Dsk.settle D.st (D.pd.take (Dsk.cl x D.pd.length))) j = Dsk.bytes D.st j := bytes_settle _ _ h.st (fun p hp => h.pd p (List.mem_of_mem_take hp)) (fun p hp => hj p (List.mem_of_mem_take hp))
    unfold Dsk.torn
    split
    · rename_i p hp
      have hm := h.pd p (List.mem_of_getElem? hp)
      have h3 : p.2.data.toList.length = 64 := hm.2
      rw [bytes_put (by rw [List.length_take]; omega) (by rw [List.length_take]; omega) (hj p (List.mem_of_getElem? hp)), h2]
    · exact h2
/-- A failure leaves nothing pending. -/
theorem fail_pd {D : Dsk.Dk} (h : D.off = false) (x y : Int) : (Dsk.fail D x y).pd = [] := by
  unfold Dsk.fail
  rw [h]
  rfl

/-- The marks of what was written since. -/
def Marks (n : Nat) (st : List UInt8) (D : Dsk.Dk) (m : List Bool) : Prop := Calm D ∧ D.st = st ∧ m.length = n ∧ ∀ p ∈ D.pd, m[p.1]? = some true
theorem Marks.zero {n : Nat} {st : List UInt8} {D : Dsk.Dk} (h : Calm D) (hp : D.pd = []) (hs : D.st = st) : Marks n st D (List.replicate n false) := ⟨h, hs, List.length_replicate, by rw [hp]; simp⟩
theorem Marks.add {n : Nat} {st : List UInt8} {D : Dsk.Dk} {m : List Bool} (h : Marks n st D m) {s : Nat} (hs : s < n) (t : ByteArray) : Marks n st (Dsk.added D s t) (m.set s true) := by
  refine ⟨h.1, h.2.1, by rw [List.length_set]; exact h.2.2.1, ?_⟩
  intro p hp
  rw [List.getElem?_set]
  by_cases e : s = p.1
  · rw [if_pos e, if_pos (by rw [h.2.2.1]; omega)]
  · rw [if_neg e]
    rcases List.mem_append.1 hp with h2 | h2
    · exact h.2.2.2 p h2
    · rw [List.mem_singleton.1 h2] at e
      exact absurd (Int.toNat_natCast s).symm e
theorem Marks.seen {n j : Nat} {st : List UInt8} {D D5 : Dsk.Dk} {m : List Bool} (h : Marks n st D m) (hk : Dsk.ok n D) (x y : Int) (hD : D5 = Dsk.startD (Dsk.fail D x y)) (hj : m[j]? = some false) : Dsk.seen D5 j = ⟨(Dsk.bytes st j).toArray⟩ := by
  subst hD
  have h1 : (Dsk.startD (Dsk.fail D x y)).pd = [] := fail_pd h.1.1 x y
  rw [seen_calm h1]
  have h2 : (Dsk.startD (Dsk.fail D x y)).st = (Dsk.fail D x y).st := rfl
  rw [h2, bytes_fail hk x y (fun p hp e => by have := h.2.2.2 p hp; rw [e, hj] at this; cases this), h.2.1]

/-- A row of marks of the call's own. -/
def BRow (W : World) (g : Nat) (m : List Bool) : Prop := g < W.heap.size ∧ ∀ j, (h : j < m.length) → W.cell? ⟨g, j, none⟩ = some (.bool m[j]) ∧ W.frozen? ⟨g, j, none⟩ = false
theorem BRow.kept {W W' : World} {F : Nat → Prop} {g : Nat} {m : List Bool} (h : BRow W g m) (ho : Only F W W') (hf : ¬ F g) : BRow W' g m := by
  have hb := ho.block g h.1 hf
  exact ⟨Nat.lt_of_lt_of_le h.1 ho.size, fun j hj => ⟨by rw [World.cell?_of_block (w := W) (a := ⟨g, j, none⟩) hb]; exact (h.2 j hj).1, by rw [World.frozen?_of_block (w := W) (a := ⟨g, j, none⟩) hb]; exact (h.2 j hj).2⟩⟩
theorem BRow.below {W W' : World} {g : Nat} {m : List Bool} (h : BRow W g m) (hb : Below W.heap.size W W') : BRow W' g m := h.kept (Only.of_below (fun _ => False) hb) (fun hh => hh)
theorem BRow.set {W : World} {g : Nat} {m : List Bool} (h : BRow W g m) {k : Nat} (hk : k < m.length) (t : Bool) : BRow (W.setCell ⟨g, k, none⟩ (.bool t)) g (m.set k t) := by
  refine ⟨by simpa using h.1, fun j hj => ⟨?_, by rw [World.frozen?_setCell]; exact (h.2 j (by simpa using hj)).2⟩⟩
  rw [List.getElem_set]
  by_cases e : k = j
  · subst e
    rw [if_pos rfl, World.cell?_setCell_same _ _ _ (h.2 k hk).1]
  · rw [if_neg e, World.cell?_setCell_other _ _ _ _ (by simp [e])]
    exact (h.2 j (by simpa using hj)).1
theorem info_bool : (Try.prog.info? 4).map (fun i => (i.zero, i.size, i.bytes)) = some (some (.bool false), 1, 1) := by kernel_rfl

/-- A disk, the contents of before in the row g1 and the marks in the row gm, all of them the call's own. -/
def Held (n : Nat) (w W : World) (b bs : Nat) (D : Dsk.Dk) (g1 : Nat) (ss : List ByteArray) (gm : Nat) (m : List Bool) : Prop :=
  Below w.heap.size w W ∧ (∃ pv, IsDisk n W b bs pv D ∧ ∀ k, foot b bs pv k → w.heap.size ≤ k ∧ k ≠ g1 ∧ k ≠ gm) ∧ SRow W g1 ss ∧ BRow W gm m ∧ g1 ≠ gm ∧ w.heap.size ≤ gm
section
variable {n : Nat} {w W W' : World} {b bs : Nat} {D D' : Dsk.Dk} {g1 gm : Nat} {ss : List ByteArray} {m : List Bool}
theorem Held.left (h : Held n w W b bs D g1 ss gm m) {pv : Value} (hf : ∀ k, foot b bs pv k → w.heap.size ≤ k ∧ k ≠ g1 ∧ k ≠ gm) (hl : Left n W b bs pv D' W') : Held n w W' b bs D' g1 ss gm m := by
  obtain ⟨p2, o2, i2, q2⟩ := hl
  have l1 : g1 < W.heap.size := h.2.2.1.1
  have l2 : gm < W.heap.size := h.2.2.2.1.1
  refine ⟨h.1.trans (o2.below h.1.size (fun k hk => (hf k hk).1)), ⟨p2, i2, fun k hk => ?_⟩, h.2.2.1.kept o2 (fun hk => (hf _ hk).2.1 rfl), h.2.2.2.1.kept o2 (fun hk => (hf _ hk).2.2 rfl), h.2.2.2.2⟩
  rcases hk with hk | hk | hk
  · exact hf k (Or.inl hk)
  · exact hf k (Or.inr (Or.inl hk))
  · rcases q2 k hk with h3 | h3
    · exact hf k (Or.inr (Or.inr h3))
    · exact ⟨Nat.le_trans h.1.size h3, by omega, by omega⟩
theorem Held.below (h : Held n w W b bs D g1 ss gm m) (hb : Below W.heap.size W W') : Held n w W' b bs D g1 ss gm m := by
  obtain ⟨pv, hi, hf⟩ := h.2.1
  exact h.left hf (Left.same hi hb)
theorem Held.run (h : Held n w W b bs D g1 ss gm m) {P : Program} {f : FuncId} {args : Array Value} {v : Value} (hc : ∀ pv, IsDisk n W b bs pv D → Calls P f args W fun e w' => e = .returned v ∧ Left n W b bs pv D' w') :
    Calls P f args W fun e w' => e = .returned v ∧ Held n w w' b bs D' g1 ss gm m := by
  obtain ⟨pv, hi, hf⟩ := h.2.1
  exact (hc pv hi).mono fun e w' ⟨h1, h2⟩ => ⟨h1, h.left hf h2⟩
theorem Held.mark (h : Held n w W b bs D g1 ss gm m) {k : Nat} (hk : k < m.length) : Held n w (W.setCell ⟨gm, k, none⟩ (.bool true)) b bs D g1 ss gm (m.set k true) := by
  obtain ⟨h1, ⟨pv, hi, hf⟩, h3, h4, h5, h6⟩ := h
  have ho : Only (fun q => q = gm) W (W.setCell ⟨gm, k, none⟩ (.bool true)) := (Only.refl (fun q => q = gm) W).setCell (p := ⟨gm, k, none⟩) (Or.inl rfl) _
  exact ⟨h1.setCell (p := ⟨gm, k, none⟩) h6 _, ⟨pv, hi.far ho (fun q hq e => (hf q hq).2.2 e), hf⟩, h3.kept ho h5, h4.set hk true, h5, h6⟩
theorem Held.ok (h : Held n w W b bs D g1 ss gm m) : Dsk.ok n D := by
  obtain ⟨pv, hi, _⟩ := h.2.1
  exact hi.ok
theorem Held.contents (h : Held n w W b bs D g1 ss gm m) (ho : D.off = false) : Calls Try.prog 22 #[.pointer (some ⟨b, 0, none⟩), .int .i64 n] W (ContPost n W D) := by
  obtain ⟨pv, hi, _⟩ := h.2.1
  exact contents_on hi ho
end

end Go.Proofs.Ytenddmcepfkbaaa
