/- What the statements on disks keep beside the disk: rows of texts. -/
import Derived.Test.YtenddmcepfkbaaaDskRaw
namespace Go.Proofs.Ytenddmcepfkbaaa
open Go.RowKit

theorem lastP_snoc (pd : List (Nat × ByteArray)) (s : Nat) (t : ByteArray) (j : Nat) : Dsk.lastP (pd ++ [(s, t)]) j = if s = j then some t else Dsk.lastP pd j := by
  unfold Dsk.lastP
  rw [List.reverse_append]
  show ((List.find? (fun p => p.1 == j) ((s, t) :: pd.reverse)).map (·.2)) = _
  rw [List.find?_cons]
  by_cases h : s = j
  · subst h; simp
  · have : (s == j) = false := by simp [h]
    simp [this, h]
theorem seen_added (D : Dsk.Dk) (s : Nat) (t : ByteArray) (j : Nat) : Dsk.seen (Dsk.added D s t) j = if s = j then t else Dsk.seen D j := by
  unfold Dsk.seen
  show (match Dsk.lastP (D.pd ++ [((s : Int).toNat, t)]) j with | some t => t | none => (⟨(Dsk.bytes D.st j).toArray⟩ : ByteArray)) = _
  rw [Int.toNat_natCast, lastP_snoc]
  by_cases h : s = j
  · rw [if_pos h, if_pos h]
  · rw [if_neg h, if_neg h]
    cases Dsk.lastP D.pd j <;> rfl
theorem seenL_get (D : Dsk.Dk) (n j : Nat) (h : j < (seenL D n).length) : (seenL D n)[j] = Dsk.seen D j := by simp [seenL]
theorem seenL_added (D : Dsk.Dk) (n s : Nat) (t : ByteArray) : (seenL D n).set s t = seenL (Dsk.added D s t) n := by
  apply List.ext_getElem (by rw [List.length_set, seenL_len, seenL_len])
  intro j h1 h2
  rw [seenL_get, seen_added, List.getElem_set, seenL_get]

section
variable {n : Nat} {W W' : World} {b bs : Nat} {pv : Value} {D : Dsk.Dk}
/-- From here on. -/
theorem IsDisk.base (h : IsDisk n W b bs pv D) : St n W (foot b bs pv) W b bs D := ⟨Only.refl _ _, pv, h, fun _ hk => Or.inl hk⟩
theorem St.deep {w0 W1 : World} {F : Nat → Prop} (h : St n W1 F W b bs D) (h0 : Below w0.heap.size w0 W1) (hF : ∀ k, F k → w0.heap.size ≤ k) : Below w0.heap.size w0 W :=
  h0.trans (h.1.below h0.size hF)
theorem same_rows {ss tt : List ByteArray} {g g' c c' m : Nat} (hs : ss.length = m) (ht : tt.length = m) (hm : m ≤ 140737488351232) (h1 : SRow W g ss) (h2 : SRow W g' tt) :
    Calls Try.prog 27 #[.slice (some ⟨g, 0, none⟩) m c, .slice (some ⟨g', 0, none⟩) m c'] W fun e w' => e = .returned (.bool (decide (ss = tt))) ∧ Below W.heap.size W w' := by
  have := same_any (some ⟨g, 0, none⟩) (some ⟨g', 0, none⟩) ss tt c c' W h1.strs h2.strs (by omega) (by omega)
  rw [hs, ht] at this
  exact this
/-- The contents, as a statement reads them. -/
theorem St.contents {W1 : World} {F : Nat → Prop} (h : St n W1 F W b bs D) (ho : D.off = false) : Calls Try.prog 22 #[.pointer (some ⟨b, 0, none⟩), .int .i64 n] W (ContPost n W D) := by
  obtain ⟨pv, hi, _⟩ := h.2
  exact contents_on hi ho
theorem St.fresh {W1 : World} {F : Nat → Prop} (h : St n W1 F W b bs D) {g : Nat} (hg : W.heap.size ≤ g) : ∀ pv, IsDisk n W b bs pv D → ¬ foot b bs pv g := fun _ hi hk => by
  have := foot_lt hi hk
  omega
end

end Go.Proofs.Ytenddmcepfkbaaa
