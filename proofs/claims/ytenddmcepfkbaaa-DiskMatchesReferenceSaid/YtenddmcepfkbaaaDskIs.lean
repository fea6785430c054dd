/- A disk in memory. -/
import Derived.Test.YtenddmcepfkbaaaOnly
import Derived.Test.YtenddmcepfkbaaaDskMath
import Derived.Test.YtenddmcepfkbaaaAppApart
import Derived.Lib.BufferWrite
import Derived.Lib.SlBytesRow
namespace Go.Proofs.Ytenddmcepfkbaaa
open Go.RowKit

def stC (st : List UInt8) : Array Value := (Lib.byteCells st).toArray
theorem stC_size (st : List UInt8) : (stC st).size = st.length := by simp [stC, Lib.byteCells]
theorem stC_get (st : List UInt8) (i : Nat) (h : i < st.length) : (stC st)[i]? = some (.int .u8 ((st[i]).toNat : Int)) := by simp [stC, Lib.byteCells, h]
theorem stC_put (st : List UInt8) (s : Nat) (t : List UInt8) : stC (Dsk.put st s t) = ((stC st).toList.take (64 * s) ++ Lib.byteCells t ++ (stC st).toList.drop (64 * s + t.length)).toArray := by
  simp [stC, Dsk.put, Lib.byteCells, List.map_take, List.map_drop]
/-- The cells of pending writes. -/
def pdC : List (Nat × ByteArray) → List Value
  | [] => []
  | p :: l => .int .i64 p.1 :: .string p.2 :: pdC l
theorem pdC_len : ∀ l, (pdC l).length = l.length * 2
  | [] => rfl
  | p :: l => by show (pdC l).length + 1 + 1 = _; rw [pdC_len l, List.length_cons]; omega
theorem pdC_append : ∀ l m, pdC (l ++ m) = pdC l ++ pdC m
  | [], _ => rfl
  | p :: l, m => by show _ :: _ :: pdC (l ++ m) = _; rw [pdC_append l m]; rfl
theorem pdC_get : ∀ (l : List (Nat × ByteArray)) (k : Nat) (h : k < l.length), (pdC l)[k * 2]? = some (.int .i64 (l[k].1 : Nat)) ∧ (pdC l)[k * 2 + 1]? = some (.string l[k].2)
  | p :: l, 0, _ => ⟨rfl, rfl⟩
  | p :: l, k + 1, h => by
    have := pdC_get l k (by simpa using h)
    rw [show (k + 1) * 2 = k * 2 + 1 + 1 by omega]
    exact this
theorem pdC_one : ∀ l, ∀ u ∈ pdC l, u.oneCell' = true
  | [], u, h => by cases h
  | p :: l, u, h => by
    rcases List.mem_cons.1 h with h | h
    · rw [h]; rfl
    · rcases List.mem_cons.1 h with h | h
      · rw [h]; rfl
      · exact pdC_one l u h

def diskC (bs n : Nat) (pv : Value) (D : Dsk.Dk) : Array Value :=
  #[.slice (some ⟨bs, 0, none⟩) (64 * n) (64 * n), pv, .bool D.off, .bool D.armed, .int .i64 D.aft, .int .i64 D.tw, .int .i64 D.tb]
/-- The disk D of n sectors lies at b; its bytes at bs; its pending writes are the slice pv. -/
structure IsDisk (n : Nat) (W : World) (b bs : Nat) (pv : Value) (D : Dsk.Dk) : Prop where
  whole : Whole W b 61 (diskC bs n pv D)
  stable : Whole W bs 5 (stC D.st)
  row : W.ownsRow 0 70 2 pv D.pd.length (pdC D.pd)
  ok : Dsk.ok n D
/-- The disk's blocks. -/
def foot (b bs : Nat) (pv : Value) (k : Nat) : Prop := k = b ∨ k = bs ∨ pv.ownBlock = some k
/-- What an operation leaves. -/
def Left (n : Nat) (W : World) (b bs : Nat) (pv : Value) (D : Dsk.Dk) (W' : World) : Prop :=
  ∃ pv', Only (foot b bs pv) W W' ∧ IsDisk n W' b bs pv' D ∧ ∀ k, pv'.ownBlock = some k → pv.ownBlock = some k ∨ W.heap.size ≤ k
section
variable {n : Nat} {W W' W2 : World} {b bs : Nat} {pv pv' : Value} {D D' : Dsk.Dk}
theorem IsDisk.apart (h : IsDisk n W b bs pv D) : b ≠ bs := h.whole.apart h.stable (by decide)
theorem owns_whole {base : Nat} {e t : TypeId} {size k : Nat} {v : Value} {xs : List Value} {g : Nat} {cs : Array Value} (h : W.ownsRow base e size v k xs) (hg : Whole W g t cs) (hne : e ≠ t) : v.ownBlock ≠ some g := by
  rcases h.2 with ⟨rfl, _⟩ | ⟨g', cap, cur, rfl, _, hh, _⟩
  · simp [Value.ownBlock]
  · intro he
    have e1 : g' = g := by simpa [Value.ownBlock] using he
    subst e1
    have h2 : Whole W g' e cur := hh
    exact h2.apart hg hne rfl
theorem IsDisk.pvb (h : IsDisk n W b bs pv D) : pv.ownBlock ≠ some b := owns_whole h.row h.whole (by decide)
theorem IsDisk.pvs (h : IsDisk n W b bs pv D) : pv.ownBlock ≠ some bs := owns_whole h.row h.stable (by decide)
theorem IsDisk.cells (h : IsDisk n W b bs pv D) : W.cell? ⟨b, 0, none⟩ = some (.slice (some ⟨bs, 0, none⟩) (64 * n) (64 * n)) ∧ W.cell? ⟨b, 1, none⟩ = some pv ∧ W.cell? ⟨b, 2, none⟩ = some (.bool D.off) ∧
    W.cell? ⟨b, 3, none⟩ = some (.bool D.armed) ∧ W.cell? ⟨b, 4, none⟩ = some (.int .i64 D.aft) ∧ W.cell? ⟨b, 5, none⟩ = some (.int .i64 D.tw) ∧ W.cell? ⟨b, 6, none⟩ = some (.int .i64 D.tb) :=
  ⟨h.whole.cell 0, h.whole.cell 1, h.whole.cell 2, h.whole.cell 3, h.whole.cell 4, h.whole.cell 5, h.whole.cell 6⟩
theorem IsDisk.frees (h : IsDisk n W b bs pv D) (i : Nat) : W.frozen? ⟨b, i, none⟩ = false := h.whole.frozen i
theorem IsDisk.byte (h : IsDisk n W b bs pv D) (i : Nat) (hi : i < 64 * n) : W.cell? ⟨bs, i, none⟩ = some (.int .u8 ((D.st[i]'(by rw [h.ok.st]; exact hi)).toNat : Int)) := by
  rw [h.stable.cell i, stC_get _ _ (by rw [h.ok.st]; exact hi)]
theorem IsDisk.grown (h : IsDisk n W b bs pv D) (hb : Below W.heap.size W W') : IsDisk n W' b bs pv D :=
  ⟨(hb.block b h.whole.lt).trans h.whole, (hb.block bs h.stable.lt).trans h.stable, h.row.kept (row := none) ⟨hb.os, hb.tape, hb.output, hb.size, fun k hk _ => hb.block k hk⟩ (by cases pv.ownBlock <;> simp), h.ok⟩
theorem IsDisk.far {F : Nat → Prop} (h : IsDisk n W b bs pv D) (hb : Only F W W') (hf : ∀ k, foot b bs pv k → ¬ F k) : IsDisk n W' b bs pv D := by
  refine ⟨hb.whole h.whole (hf _ (Or.inl rfl)), hb.whole h.stable (hf _ (Or.inr (Or.inl rfl))), ?_, h.ok⟩
  refine ⟨h.row.1, ?_⟩
  rcases h.row.2 with hn | ⟨g, cap, cur, e, hb0, hg, rest⟩
  · exact Or.inl hn
  · refine Or.inr ⟨g, cap, cur, e, hb0, ?_, rest⟩
    rw [hb.block g (Array.getElem?_eq_some_iff.1 hg).1 (hf _ (Or.inr (Or.inr (by rw [e]; rfl))))]
    exact hg
theorem foot_lt (h : IsDisk n W b bs pv D) {k : Nat} (hk : foot b bs pv k) : k < W.heap.size := by
  rcases hk with rfl | rfl | hk
  · exact h.whole.lt
  · exact h.stable.lt
  · exact (h.row.lt k hk).2
theorem Left.same (h : IsDisk n W b bs pv D) (hb : Below W.heap.size W W') : Left n W b bs pv D W' := ⟨pv, Only.of_below _ hb, h.grown hb, fun _ hk => Or.inl hk⟩
theorem foot_of_left {k : Nat} (hs : W.heap.size ≤ W'.heap.size) (hp : ∀ k, pv'.ownBlock = some k → pv.ownBlock = some k ∨ W.heap.size ≤ k) (hk : foot b bs pv' k) : foot b bs pv k ∨ W.heap.size ≤ k := by
  rcases hk with hk | hk | hk
  · exact Or.inl (Or.inl hk)
  · exact Or.inl (Or.inr (Or.inl hk))
  · rcases hp k hk with h | h
    · exact Or.inl (Or.inr (Or.inr h))
    · exact Or.inr h
/-- Two operations. -/
theorem Left.next {D2 : Dsk.Dk} (h1 : Only (foot b bs pv) W W') (hp : ∀ k, pv'.ownBlock = some k → pv.ownBlock = some k ∨ W.heap.size ≤ k) (h2 : Left n W' b bs pv' D2 W2) : Left n W b bs pv D2 W2 := by
  obtain ⟨p2, o2, i2, q2⟩ := h2
  refine ⟨p2, h1.next o2 fun k hk => foot_of_left h1.size hp hk, i2, fun k hk => ?_⟩
  rcases q2 k hk with h | h
  · exact hp k h
  · exact Or.inr (Nat.le_trans h1.size h)
/-- A field of the disk is stored. -/
theorem IsDisk.store (h : IsDisk n W b bs pv D) (i : Nat) (u : Value) {D2 : Dsk.Dk} (hC : (diskC bs n pv D).setIfInBounds i u = diskC bs n pv D2) (h1 : D2.st = D.st) (h2 : D2.pd = D.pd) : IsDisk n (W.setCell ⟨b, i, none⟩ u) b bs pv D2 := by
  refine ⟨by rw [← hC]; exact h.whole.set i u, by rw [h1]; exact h.stable.far (p := ⟨b, i, none⟩) (fun e => h.apart e.symm) u, ?_, ⟨by rw [h1]; exact h.ok.st, by rw [h2]; exact h.ok.pd, h.ok.n1, h.ok.n2, by rw [h2]; exact h.ok.few⟩⟩
  rw [h2]
  exact h.row.kept (row := some b) ⟨rfl, rfl, rfl, by simp, fun k _ hk => Below.heap_setCell _ _ _ _ (fun e => hk (by rw [e]))⟩ (Or.inr h.pvb)
theorem only_store (h : Only (foot b bs pv) W W') (i : Nat) (u : Value) : Only (foot b bs pv) W (W'.setCell ⟨b, i, none⟩ u) := h.setCell (p := ⟨b, i, none⟩) (Or.inl (Or.inl rfl)) u
end

end Go.Proofs.Ytenddmcepfkbaaa
