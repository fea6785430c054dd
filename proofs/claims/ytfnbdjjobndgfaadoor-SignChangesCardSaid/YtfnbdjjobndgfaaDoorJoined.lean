/- The walks of package joined and of digests of lists. -/
import Derived.Test.YtfnbdjjobndgfaaDoorBuilder
import Derived.Test.YtfnbdjjobndgfaaDoorDigIs
import Derived.Test.YtfnbdjjobndgfaaDoorItoa
namespace Go.Proofs.YtfnbdjjobndgfaaDoor
open Go.RowKit

/-- The joined text of a list. -/
def joinText (l : List (List UInt8)) : List UInt8 := l.flatMap fun s => Lib.decDigits s.length ++ [58] ++ s
theorem joinText_take (l : List (List UInt8)) (k : Nat) (h : k < l.length) : joinText (l.take (k + 1)) = joinText (l.take k) ++ (Lib.decDigits l[k].length ++ [58] ++ l[k]) := by
  rw [List.take_succ_eq_append_getElem h]; unfold joinText; rw [List.flatMap_append]; simp
theorem joinText_take_le (l : List (List UInt8)) (k : Nat) : (joinText (l.take k)).length ≤ (joinText l).length := by
  conv => rhs; rw [← List.take_append_drop k l]
  unfold joinText
  rw [List.flatMap_append, List.length_append]
  omega

theorem isBuilder_below {T e : TypeId} {B b : Nat} {bs : List Value} {w w' : World} (h : Lib.IsBuilder T e B b bs w) (hb : Below w.heap.size w w') : Lib.IsBuilder T e B b bs w' := by
  have lt : ∀ {k : Nat} {o : Obj}, w.heap[k]? = some o → k < w.heap.size := by
    intro k o hk
    rcases Nat.lt_or_ge k w.heap.size with h | h
    · exact h
    · rw [Array.getElem?_eq_none h] at hk; cases hk
  have key : ∀ p, Lib.BuilderAt T e B b p bs w → Lib.BuilderAt T e B b p bs w' := by
    rintro p ⟨h1, v, h2, ⟨h3, h4⟩, h5⟩
    refine ⟨h1, v, by rw [hb.block b (lt h2)]; exact h2, ⟨h3, ?_⟩, h5⟩
    rcases h4 with h4 | ⟨g, cap, cur, e1, e2, e3, e4⟩
    · exact Or.inl h4
    · exact Or.inr ⟨g, cap, cur, e1, e2, by rw [hb.block g (lt e3)]; exact e3, e4⟩
  exact h.elim (fun x => Or.inl (key _ x)) (fun x => Or.inr (key _ x))
theorem strCells_bytes (s : ByteArray) : Lib.strCells s = Lib.byteCells s.data.toList := rfl
theorem byteCells_snoc (l : List UInt8) (c : UInt8) : Lib.byteCells l ++ [.int .u8 (c.toNat : Int)] = Lib.byteCells (l ++ [c]) := by simp [Lib.byteCells]
theorem byteCells_app (l m : List UInt8) : Lib.byteCells l ++ Lib.byteCells m = Lib.byteCells (l ++ m) := by simp [Lib.byteCells]

set_option maxHeartbeats 4000000 in
theorem text_some (ss : List ByteArray) (bk off cap : Nat) (w : World) (ht : Tab w) (hbk : bk < w.heap.size) (hn : ss.length ≤ 1000000000)
    (hsum : (joinText (ss.map fun s => s.data.toList)).length ≤ 140737488355328)
    (hc : ∀ k, (h : k < ss.length) → w.cell? ⟨bk, off + k, none⟩ = some (.string ss[k])) (hone : ∀ s ∈ ss, s.size ≤ 140737488351232) :
    Calls Tryd.prog 62 #[.slice (some ⟨bk, off, none⟩) ss.length cap] w
      fun e w' => e = .returned (.string ⟨(joinText (ss.map fun s => s.data.toList)).toArray⟩) ∧ Below w.heap.size w w' := by
  obtain ⟨n, Hn⟩ : ∃ n, Hid (n = ss.length) := ⟨_, Lib.hid rfl⟩
  have Hc := Lib.hid hc
  have Hone := Lib.hid hone
  have Hsum := Lib.hid hsum
  clear hc hone hsum
  rw [← Hn.out] at hn ⊢
  go_enter Tryd.func62, Tryd.ntmps62
  go_wp2
  go_loopw [8] (fun i wr => ∃ k : Nat, k ≤ n ∧ i = .int .i64 k ∧ Below w.heap.size w wr ∧ Lib.IsBuilder 79 5 w.heap.size w.heap.size (Lib.byteCells (joinText ((ss.map fun s => s.data.toList).take k))) wr ∧ w.heap.size < wr.heap.size) (fun i _ => n - (intOf i).toNat)
  case atStart => exact ⟨0, Nat.zero_le _, rfl, (Below.refl _ _).alloc (Nat.le_refl _) _, Lib.fresh_isBuilder _ _ w, by simp⟩
  case round =>
    obtain ⟨k, hk, rfl, hb, hB, hz⟩ := hrel
    by_cases hlt : k < n
    · have hkl : k < ss.length := by rw [← Hn.out]; exact hlt
      obtain ⟨s, Hs⟩ : ∃ s, Hid (s = ss[k]'hkl) := ⟨_, Lib.hid rfl⟩
      have hck : wr.cell? ⟨bk, off + k, none⟩ = some (.string s) := by
        rw [hb.cell (p := ⟨bk, off + k, none⟩) hbk, Hc.out k hkl, Hs.out]
      have hs1 : s.size ≤ 140737488351232 := by rw [Hs.out]; exact Hone.out _ (List.getElem_mem hkl)
      have Hstep := Lib.hid (joinText_take (ss.map fun s => s.data.toList) k (by simpa using hkl))
      have Hle := Lib.hid (joinText_take_le (ss.map fun s => s.data.toList) (k + 1))
      obtain ⟨acc, Hacc⟩ : ∃ acc, Hid (acc = joinText ((ss.map fun s => s.data.toList).take k)) := ⟨_, Lib.hid rfl⟩
      have Hnew : Hid (joinText ((ss.map fun s => s.data.toList).take (k + 1)) = acc ++ (Lib.decDigits s.size ++ [58] ++ s.data.toList)) := by
        rw [Hstep.out, Hacc.out, Hs.out, List.getElem_map]; exact Lib.hid rfl
      have hlen : acc.length + (Lib.decDigits s.size).length + 1 + s.size ≤ 140737488355328 := by
        have h1 := Hle.out
        rw [Hnew.out] at h1
        have h2 := Hsum.out
        simp only [List.length_append, List.length_cons, List.length_nil] at h1
        have h3 : s.data.toList.length = s.size := rfl
        omega
      rw [← Hacc.out] at hB
      have htr := ht.below hb
      go_wp2_with fail
      refine (itoa_any s.size (by omega) wr htr).mono ?_
      rintro e w1 ⟨rfl, hb1⟩
      have z1 := hb1.size
      go_wp2_with fail
      refine (writeString_any w.heap.size w.heap.size _ _ w1 (isBuilder_below hB hb1) (by show _ + (Lib.decDigits s.size).length ≤ _; simp only [Lib.byteCells, List.length_map]; omega) (by omega)).mono ?_
      rintro e w2 ⟨rfl, hB2, hb2⟩
      have z2 := hb2.size
      go_wp2_with fail
      refine (writeByte_any w.heap.size w.heap.size _ _ w2 hB2 (by rw [List.length_append]; show _ + (Lib.byteCells (Lib.decDigits s.size)).length + 1 ≤ _; simp only [Lib.byteCells, List.length_map]; omega) (by omega)).mono ?_
      rintro e w3 ⟨rfl, hB3, hb3⟩
      have z3 := hb3.size
      go_wp2_with fail
      refine (writeString_any w.heap.size w.heap.size _ _ w3 hB3 (by rw [List.length_append, List.length_append]; show _ + (Lib.byteCells (Lib.decDigits s.size)).length + 1 + _ ≤ _; simp only [Lib.byteCells, List.length_map]; omega) (by omega)).mono ?_
      rintro e w4 ⟨rfl, hB4, hb4⟩
      have z4 := hb4.size
      have hB5 : Lib.IsBuilder 79 5 w.heap.size w.heap.size (Lib.byteCells (joinText ((ss.map fun s => s.data.toList).take (k + 1)))) w4 := by
        rw [Hnew.out]
        have e : Lib.byteCells acc ++ Lib.strCells ⟨(Lib.decDigits s.size).toArray⟩ ++ [Value.int .u8 58] ++ Lib.strCells s = Lib.byteCells (acc ++ (Lib.decDigits s.size ++ [58] ++ s.data.toList)) := by
          simp [Lib.byteCells, Lib.strCells]
        rw [← e]; exact hB4
      have hbn : Below w.heap.size w w4 := (((hb.trans (hb1.mono (by omega))).trans hb2).trans hb3).trans hb4
      clear hB hB2 hB3 hB4 hb hb1 hb2 hb3 hb4 htr
      go_wp2
      go_roundw
      case rel => exact ⟨k + 1, by omega, by go_num, hbn, hB5, by omega⟩
      case measure => simp [intOf]; omega
    · obtain rfl : k = n := by omega
      go_wp2_with fail
      refine (_root_.Go.Proofs.Tryd.Builder_String_any w.heap.size w.heap.size _ wr hB (by omega)).mono ?_
      rintro e w1 ⟨rfl, hb1⟩
      go_wp2
      go_ret
      exact ⟨ret_str (by rw [Hn.out, List.take_of_length_le (by simp)]), hb.trans hb1⟩

end Go.Proofs.YtfnbdjjobndgfaaDoor
