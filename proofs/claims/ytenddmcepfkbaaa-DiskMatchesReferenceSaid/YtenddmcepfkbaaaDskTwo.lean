/- Two disks along a walk. -/
import Derived.Test.YtenddmcepfkbaaaDskKeep
namespace Go.Proofs.Ytenddmcepfkbaaa
open Go.RowKit

/-- Since the world W1 only the two disks' blocks, and new ones, have changed; the disks lie apart. -/
def St2 (n : Nat) (W1 : World) (F : Nat → Prop) (W : World) (b bs : Nat) (D : Dsk.Dk) (c cs : Nat) (E : Dsk.Dk) : Prop :=
  Only F W1 W ∧ ∃ pv pu, IsDisk n W b bs pv D ∧ IsDisk n W c cs pu E ∧ (∀ k, foot b bs pv k → F k ∨ W1.heap.size ≤ k) ∧ (∀ k, foot c cs pu k → F k ∨ W1.heap.size ≤ k) ∧ ∀ k, foot b bs pv k → ¬ foot c cs pu k
section
variable {n : Nat} {W1 W W' : World} {F : Nat → Prop} {b bs c cs : Nat} {D D' E : Dsk.Dk}
theorem St2.swap (h : St2 n W1 F W b bs D c cs E) : St2 n W1 F W c cs E b bs D := by
  obtain ⟨h0, pv, pu, h1, h2, h3, h4, h5⟩ := h
  exact ⟨h0, pu, pv, h2, h1, h4, h3, fun k hk hh => h5 k hh hk⟩
theorem St2.below (h : St2 n W1 F W b bs D c cs E) (hb : Below W.heap.size W W') : St2 n W1 F W' b bs D c cs E := by
  obtain ⟨h0, pv, pu, h1, h2, h3, h4, h5⟩ := h
  exact ⟨h0.next (G := fun _ => False) (Only.of_below _ hb) (fun _ hh => hh.elim), pv, pu, h1.grown hb, h2.grown hb, h3, h4, h5⟩
theorem St2.run (h : St2 n W1 F W b bs D c cs E) {P : Program} {f : FuncId} {args : Array Value} {v : Value} (hc : ∀ pv, IsDisk n W b bs pv D → Calls P f args W fun e w' => e = .returned v ∧ Left n W b bs pv D' w') :
    Calls P f args W fun e w' => e = .returned v ∧ St2 n W1 F w' b bs D' c cs E := by
  obtain ⟨h0, pv, pu, h1, h2, h3, h4, h5⟩ := h
  refine (hc pv h1).mono fun e w' ⟨he, hl⟩ => ⟨he, ?_⟩
  obtain ⟨p2, o2, i2, q2⟩ := hl
  have hf : ∀ k, foot b bs p2 k → foot b bs pv k ∨ W.heap.size ≤ k := fun k hk => foot_of_left o2.size q2 hk
  refine ⟨h0.next o2 h3, p2, pu, i2, h2.far o2 (fun k hk hh => h5 k hh hk), fun k hk => ?_, h4, fun k hk hh => ?_⟩
  · rcases hf k hk with h | h
    · exact h3 k h
    · exact Or.inr (Nat.le_trans h0.size h)
  · rcases hf k hk with h | h
    · exact h5 k h hh
    · have := foot_lt h2 hh; omega
theorem St2.run2 (h : St2 n W1 F W b bs D c cs E) {E' : Dsk.Dk} {P : Program} {f : FuncId} {args : Array Value} {v : Value} (hc : ∀ pv, IsDisk n W c cs pv E → Calls P f args W fun e w' => e = .returned v ∧ Left n W c cs pv E' w') :
    Calls P f args W fun e w' => e = .returned v ∧ St2 n W1 F w' b bs D c cs E' :=
  (h.swap.run hc).mono fun _ _ ⟨h1, h2⟩ => ⟨h1, h2.swap⟩
theorem St2.first (h : St2 n W1 F W b bs D c cs E) : St n W1 F W b bs D := by
  obtain ⟨h0, pv, pu, h1, h2, h3, h4, h5⟩ := h
  exact ⟨h0, pv, h1, h3⟩
/-- A second disk, new. -/
theorem St2.new (h : St n W1 F W b bs D) (hb : Below W.heap.size W W') {pu : Value} (hi : IsDisk n W' c cs pu E) (hf : ∀ k, foot c cs pu k → W.heap.size ≤ k) : St2 n W1 F W' b bs D c cs E := by
  obtain ⟨h0, pv, h1, h3⟩ := h
  refine ⟨h0.next (G := fun _ => False) (Only.of_below _ hb) (fun _ hh => hh.elim), pv, pu, h1.grown hb, hi, h3, fun k hk => Or.inr (Nat.le_trans h0.size (hf k hk)), fun k hk hh => ?_⟩
  have := foot_lt h1 hk
  have := hf k hh
  omega
theorem new_foot {w : World} {c cs : Nat} (h1 : w.heap.size ≤ c) (h2 : w.heap.size ≤ cs) : ∀ k, foot c cs (.slice none 0 0) k → w.heap.size ≤ k := by
  intro k hk
  rcases hk with rfl | rfl | hk
  · exact h1
  · exact h2
  · simp [Value.ownBlock] at hk
theorem St2.act (h : St2 n W1 F W b bs D c cs E) (a : Ac) (ht : a.text.size ≤ 100) {k : Nat} (hf : fits D k) (hk : k ≤ 1000) :
    Calls Try.prog 16 #[.pointer (some ⟨b, 0, none⟩), .agg #[.int .i64 a.kind, .int .i64 a.sector, .int .i64 a.byt, .string a.text, .bool a.odd, .int .i64 a.after]] W
      fun e w' => e = .returned (.tuple #[.string (doV n D a), .int .i64 (doE n D a)]) ∧ St2 n W1 F w' b bs (doD n D a) c cs E :=
  h.run fun _ hi => do_any hi a ht (by have := hf.2; omega) hf.1
end

theorem cl_all {k : Int} {m : Nat} (h : (m : Int) ≤ k) : Dsk.cl k m = m := by
  have := Dsk.cl_cases k m
  omega
theorem fail_on_eq {D : Dsk.Dk} (ho : D.off = false) (x y : Int) : Dsk.fail D x y = { D with st := Dsk.torn (Dsk.settle D.st (D.pd.take (Dsk.cl x D.pd.length))) D.pd (Dsk.cl x D.pd.length) (Dsk.cl y 64), pd := [], off := true, armed := false } := by
  unfold Dsk.fail
  rw [ho]
  rfl
/-- A failure with as many writes as are pending. -/
theorem fail_all {D : Dsk.Dk} (ho : D.off = false) (hp : D.pd.length ≤ 60) (y : Int) : (Dsk.fail D 60 y).st = Dsk.settle D.st D.pd ∧ (Dsk.fail D 60 y).pd = [] ∧ (Dsk.fail D 60 y).off = true := by
  rw [fail_on_eq ho, cl_all (by omega), List.take_length]
  refine ⟨?_, rfl, rfl⟩
  show Dsk.torn _ _ _ _ = _
  unfold Dsk.torn
  rw [List.getElem?_eq_none (Nat.le_refl _)]
theorem fail_again {D : Dsk.Dk} (ho : D.off = true) (x y : Int) : Dsk.fail D x y = D := by unfold Dsk.fail; rw [ho]; rfl
theorem fail_clean {D : Dsk.Dk} (ho : D.off = false) (hp : D.pd = []) (x y : Int) : (Dsk.fail D x y).st = D.st ∧ (Dsk.fail D x y).pd = [] := by
  rw [fail_on_eq ho]
  refine ⟨?_, rfl⟩
  show Dsk.torn _ _ _ _ = _
  rw [hp]
  unfold Dsk.torn
  simp [Dsk.settle]
theorem seenL_same {D E : Dsk.Dk} (n : Nat) (hs : D.st = E.st) (hp : D.pd = E.pd) : seenL D n = seenL E n := by
  unfold seenL
  refine List.map_congr_left fun j _ => ?_
  unfold Dsk.seen
  rw [hs, hp]

end Go.Proofs.Ytenddmcepfkbaaa
