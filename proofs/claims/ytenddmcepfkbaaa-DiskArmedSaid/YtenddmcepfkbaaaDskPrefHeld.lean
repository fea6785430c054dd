/- A disk and one operation of the call's own, kept along a walk. -/
import Derived.Test.YtenddmcepfkbaaaDskPrefixA
namespace Go.Proofs.Ytenddmcepfkbaaa
open Go.RowKit

def actC (a : Ac) : Array Value := #[.int .i64 a.kind, .int .i64 a.sector, .int .i64 a.byt, .string a.text, .bool a.odd, .int .i64 a.after]
def Pref (n : Nat) (w W : World) (b bs : Nat) (D : Dsk.Dk) (gn : Nat) (a : Ac) : Prop :=
  Below w.heap.size w W ∧ (∃ pv, IsDisk n W b bs pv D ∧ ∀ k, foot b bs pv k → w.heap.size ≤ k ∧ k ≠ gn) ∧ Whole W gn 34 (actC a) ∧ w.heap.size ≤ gn
section
variable {n : Nat} {w W W' : World} {b bs : Nat} {D D' : Dsk.Dk} {gn : Nat} {a : Ac}
theorem Pref.left (h : Pref n w W b bs D gn a) {pv : Value} (hf : ∀ k, foot b bs pv k → w.heap.size ≤ k ∧ k ≠ gn) (hl : Left n W b bs pv D' W') : Pref n w W' b bs D' gn a := by
  obtain ⟨p2, o2, i2, q2⟩ := hl
  have l2 : gn < W.heap.size := h.2.2.1.lt
  refine ⟨h.1.trans (o2.below h.1.size (fun k hk => (hf k hk).1)), ⟨p2, i2, fun k hk => ?_⟩, o2.whole h.2.2.1 (fun hk => (hf _ hk).2 rfl), h.2.2.2⟩
  rcases hk with hk | hk | hk
  · exact hf k (Or.inl hk)
  · exact hf k (Or.inr (Or.inl hk))
  · rcases q2 k hk with h3 | h3
    · exact hf k (Or.inr (Or.inr h3))
    · exact ⟨Nat.le_trans h.1.size h3, by omega⟩
theorem Pref.below (h : Pref n w W b bs D gn a) (hb : Below W.heap.size W W') : Pref n w W' b bs D gn a := by
  obtain ⟨pv, hi, hf⟩ := h.2.1
  exact h.left hf (Left.same hi hb)
theorem Pref.run (h : Pref n w W b bs D gn a) {P : Program} {f : FuncId} {args : Array Value} {v : Value} (hc : ∀ pv, IsDisk n W b bs pv D → Calls P f args W fun e w' => e = .returned v ∧ Left n W b bs pv D' w') :
    Calls P f args W fun e w' => e = .returned v ∧ Pref n w w' b bs D' gn a := by
  obtain ⟨pv, hi, hf⟩ := h.2.1
  exact (hc pv hi).mono fun e w' ⟨h1, h2⟩ => ⟨h1, h.left hf h2⟩
theorem Pref.contents (h : Pref n w W b bs D gn a) (ho : D.off = false) : Calls Try.prog 22 #[.pointer (some ⟨b, 0, none⟩), .int .i64 n] W (ContPost n W D) := by
  obtain ⟨pv, hi, _⟩ := h.2.1
  exact contents_on hi ho
theorem Pref.act (h : Pref n w W b bs D gn a) : IsAct W gn 0 a := by
  have hw := h.2.2.1
  unfold IsAct
  exact ⟨by rw [hw.cell]; rfl, by rw [hw.cell]; rfl, by rw [hw.cell]; rfl, by rw [hw.cell]; rfl, by rw [hw.cell]; rfl, by rw [hw.cell]; rfl⟩
theorem Pref.new (h : St n w (fun _ => False) W b bs D) (a : Ac) : Pref n w (W.alloc (.cells (actC a) 34)) b bs D W.heap.size a := by
  obtain ⟨pv, hi, hf⟩ := h.2
  have hb : Below W.heap.size W (W.alloc (.cells (actC a) 34)) := (Below.refl _ _).alloc (Nat.le_refl _) _
  exact ⟨below_step h.toBelow hb, ⟨pv, hi.grown hb, fun k hk => ⟨(hf k hk).elim (fun h => h.elim) id, fun e => by have := foot_lt hi hk; omega⟩⟩, Whole.new _ _ _, h.toBelow.size⟩
/-- The block takes another operation's cells. -/
theorem Pref.put (h : Pref n w W b bs D gn a) (a2 : Ac) (ho : Only (fun q => q = gn) W W') (hw : Whole W' gn 34 (actC a2)) : Pref n w W' b bs D gn a2 := by
  obtain ⟨h1, ⟨pv, hi, hf⟩, h3, h4⟩ := h
  exact ⟨h1.trans (ho.below h1.size (fun k e => by subst e; exact h4)), ⟨pv, hi.far ho (fun q hq e => (hf q hq).2 e), hf⟩, hw, h4⟩
end

/-- The first operation that does not survive, or none. -/
def noAct : Ac := ⟨0, -1, 0, ⟨#[]⟩, false, 0⟩
def Nx (q : List (Nat × ByteArray)) (kw : Nat) (a : Ac) : Prop := (q[kw]? = some (a.sector.toNat, textV a.odd a.text) ∧ 0 ≤ a.sector ∧ a.text.size ≤ 100) ∨ (q.length ≤ kw ∧ a = noAct)
theorem Nx.nil (kw : Nat) : Nx [] kw noAct := Or.inr ⟨Nat.zero_le _, rfl⟩
theorem Nx.hit {q : List (Nat × ByteArray)} {kw : Nat} {a : Ac} (hq : q.length = kw) (h0 : 0 ≤ a.sector) (ht : a.text.size ≤ 100) : Nx (q ++ [(a.sector.toNat, textV a.odd a.text)]) kw a :=
  Or.inl ⟨by rw [List.getElem?_append_right (by omega), hq]; simp, h0, ht⟩
theorem Nx.miss {q : List (Nat × ByteArray)} {kw : Nat} {a : Ac} (h : Nx q kw a) (hq : q.length ≠ kw) (p : Nat × ByteArray) : Nx (q ++ [p]) kw a := by
  rcases h with ⟨h1, h2⟩ | ⟨h1, h2⟩
  · have hlt : kw < q.length := (List.getElem?_eq_some_iff.1 h1).1
    exact Or.inl ⟨by rw [List.getElem?_append_left hlt]; exact h1, h2⟩
  · exact Or.inr ⟨by rw [List.length_append]; show q.length + 1 ≤ kw; omega, h2⟩

theorem cat_parts (T old : ByteArray) (b : Nat) : T.extract 0 b ++ old.extract b old.size = ⟨(T.data.toList.take b ++ old.data.toList.drop b).toArray⟩ := by
  apply ByteArray.ext
  rw [ByteArray.data_append, ByteArray.data_extract, ByteArray.data_extract]
  apply Array.ext'
  rw [Array.toList_append, Array.toList_extract, Array.toList_extract, List.extract_eq_take_drop, List.extract_eq_take_drop]
  simp only [Nat.sub_zero, List.drop_zero]
  rw [List.take_of_length_le (l := List.drop b old.data.toList) (by rw [List.length_drop]; exact Nat.le_refl _)]

end Go.Proofs.Ytenddmcepfkbaaa
