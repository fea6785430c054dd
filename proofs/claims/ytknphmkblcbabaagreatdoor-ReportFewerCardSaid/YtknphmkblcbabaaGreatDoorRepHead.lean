/- The laws' head. -/
import Derived.Test.YtknphmkblcbabaaGreatDoorRepHeadM
namespace Go.Proofs.YtknphmkblcbabaaGreatDoor
open Go.RowKit
open Evt Rph

theorem four_new (W : World) (c1 c2 c3 c4 : Array Value) (t1 t2 t3 t4 : TypeId) :
    Whole ((((W.alloc (.cells c1 t1)).alloc (.cells c2 t2)).alloc (.cells c3 t3)).alloc (.cells c4 t4)) W.heap.size t1 c1 ∧
    Whole ((((W.alloc (.cells c1 t1)).alloc (.cells c2 t2)).alloc (.cells c3 t3)).alloc (.cells c4 t4)) (W.heap.size + 1) t2 c2 ∧
    Whole ((((W.alloc (.cells c1 t1)).alloc (.cells c2 t2)).alloc (.cells c3 t3)).alloc (.cells c4 t4)) (W.heap.size + 1 + 1) t3 c3 ∧
    Whole ((((W.alloc (.cells c1 t1)).alloc (.cells c2 t2)).alloc (.cells c3 t3)).alloc (.cells c4 t4)) (W.heap.size + 1 + 1 + 1) t4 c4 ∧
    Below W.heap.size W ((((W.alloc (.cells c1 t1)).alloc (.cells c2 t2)).alloc (.cells c3 t3)).alloc (.cells c4 t4)) := by
  have s1 : (W.alloc (.cells c1 t1)).heap.size = W.heap.size + 1 := size_alloc _ _
  have s2 : ((W.alloc (.cells c1 t1)).alloc (.cells c2 t2)).heap.size = W.heap.size + 1 + 1 := by rw [size_alloc, s1]
  have s3 : (((W.alloc (.cells c1 t1)).alloc (.cells c2 t2)).alloc (.cells c3 t3)).heap.size = W.heap.size + 1 + 1 + 1 := by rw [size_alloc, s2]
  refine ⟨(((Whole.new _ _ _).alloc _).alloc _).alloc _, ?_, ?_, ?_, ?_⟩
  · have := Whole.new (W.alloc (.cells c1 t1)) t2 c2
    rw [s1] at this
    exact (this.alloc _).alloc _
  · have := Whole.new ((W.alloc (.cells c1 t1)).alloc (.cells c2 t2)) t3 c3
    rw [s2] at this
    exact this.alloc _
  · have := Whole.new (((W.alloc (.cells c1 t1)).alloc (.cells c2 t2)).alloc (.cells c3 t3)) t4 c4
    rw [s3] at this
    exact this
  · exact ((((Below.refl _ _).alloc (Nat.le_refl _) _).alloc (by rw [s1]; omega) _).alloc (by rw [s2]; omega) _).alloc (by rw [s3]; omega) _
theorem isL_e1 {V : World} {g : Nat} (h : Whole V g 51 (evC e1).toArray) : IsL 14 ElEv V (some ⟨g, 0, none⟩) [e1] := by
  refine IsL.whole (t := 51) (css := [evC e1]) (by simpa using h) rfl (by simp [evC_len]) ?_
  intro k hk hk'
  obtain rfl : k = 0 := by simp at hk; exact hk
  exact ⟨rfl, sz1⟩
theorem isL_e23 {V : World} {g : Nat} (h : Whole V g 51 (evC e2 ++ evC e3).toArray) : IsL 14 ElEv V (some ⟨g, 0, none⟩) [e2, e3] := by
  refine IsL.whole (t := 51) (css := [evC e2, evC e3]) (by simpa using h) rfl (by simp [evC_len]) ?_
  intro k hk hk'
  have hk2 : k = 0 ∨ k = 1 := by simp at hk; omega
  rcases hk2 with rfl | rfl
  · exact ⟨rfl, sz2⟩
  · exact ⟨rfl, sz3⟩
theorem two_newP (W : World) (c1 c2 : Array Value) (t1 t2 : TypeId) : Whole ((W.alloc (.cells c1 t1)).alloc (.cells c2 t2)) W.heap.size t1 c1 ∧ Whole ((W.alloc (.cells c1 t1)).alloc (.cells c2 t2)) (W.heap.size + 1) t2 c2 ∧ Below W.heap.size W ((W.alloc (.cells c1 t1)).alloc (.cells c2 t2)) := by
  have s1 : (W.alloc (.cells c1 t1)).heap.size = W.heap.size + 1 := size_alloc _ _
  refine ⟨(Whole.new _ _ _).alloc _, ?_, ((Below.refl _ _).alloc (Nat.le_refl _) _).alloc (by rw [s1]; omega) _⟩
  have := Whole.new (W.alloc (.cells c1 t1)) t2 c2
  rw [s1] at this
  exact this
theorem isL_three {V : World} {g S : Nat} (h : Whole V g 31 #[.slice (some ⟨S, 0, none⟩) 1 1, .bool false, .slice (some ⟨S + 1 + 1, 0, none⟩) 2 2, .bool true, .slice (some ⟨S + 1 + 1, 0, none⟩) 2 2, .bool true])
    (h1 : IsL 14 ElEv V (some ⟨S, 0, none⟩) [e1]) (h2 : IsL 14 ElEv V (some ⟨S + 1 + 1, 0, none⟩) [e2, e3]) : IsL 2 ElRp V (some ⟨g, 0, none⟩) [rA, rB, rB] := by
  refine IsL.whole (t := 31) (css := [[.slice (some ⟨S, 0, none⟩) 1 1, .bool false], [.slice (some ⟨S + 1 + 1, 0, none⟩) 2 2, .bool true], [.slice (some ⟨S + 1 + 1, 0, none⟩) 2 2, .bool true]]) (by simpa using h) rfl (by simp) ?_
  intro k hk hk'
  have hk2 : k = 0 ∨ k = 1 ∨ k = 2 := by simp at hk; omega
  rcases hk2 with rfl | rfl | rfl
  · exact ⟨_, _, rfl, h1, Nat.le_refl _, by omega⟩
  · exact ⟨_, _, rfl, h2, Nat.le_refl _, by omega⟩
  · exact ⟨_, _, rfl, h2, Nat.le_refl _, by omega⟩
theorem isL_012 {V : World} {g : Nat} (h : Whole V g 3 #[.int .i64 0, .int .i64 1, .int .i64 2]) : IsL 1 ElZ V (some ⟨g, 0, none⟩) [0, 1, 2] := by
  refine IsL.whole (t := 3) (css := [[.int .i64 0], [.int .i64 1], [.int .i64 2]]) (by simpa using h) rfl (by simp) ?_
  intro k hk hk'
  have hk2 : k = 0 ∨ k = 1 ∨ k = 2 := by simp at hk; omega
  rcases hk2 with rfl | rfl | rfl <;> rfl
theorem pick_head {W : World} {g S : Nat} (h1 : IsL 2 ElRp W (some ⟨g, 0, none⟩) [rA, rB, rB]) (h2 : IsL 1 ElZ W (some ⟨S, 0, none⟩) [0, 1, 2]) :
    Calls Tryz.prog 11 #[.slice (some ⟨g, 0, none⟩) 3 3, .slice (some ⟨S, 0, none⟩) 3 3] W fun e w' => ∃ v, e = .returned (.tuple #[v, .int .i64 0]) ∧ OwnE W.heap.size w' v [e1, e3] ∧ Below W.heap.size W w' := by
  have := repPicked_any [rA, rB, rB] (some ⟨g, 0, none⟩) 3 (by simp) [0, 1, 2] (some ⟨S, 0, none⟩) 3 (by simp) W h1 h2
  rw [pickE3, pickF3] at this
  exact this
theorem OwnE.cells {B : Nat} {w : World} {v : Value} {es : List Ev} (h : OwnE B w v es) (hne : es ≠ []) : ∃ g c, v = .slice (some ⟨g, 0, none⟩) es.length c ∧ g < w.heap.size ∧ ∀ i u, (es.flatMap evC)[i]? = some u → w.cell? ⟨g, i, none⟩ = some u := by
  have hl := h.row.1
  rcases h.row.2 with ⟨_, hnil⟩ | ⟨g, cap, cur, rfl, hbase, hb, h1, h2, h3, h4⟩
  · exact absurd (List.eq_nil_of_length_eq_zero hnil) hne
  · refine ⟨g, cap, rfl, (Array.getElem?_eq_some_iff.1 hb).1, fun i u hu => ?_⟩
    have hw : Whole w g 51 cur := hb
    have hi := (List.getElem?_eq_some_iff.1 hu).1
    rw [hw.cell, ← Array.getElem?_toList]
    rw [← h4, List.getElem?_take_of_lt (by omega)] at hu
    exact hu
end Go.Proofs.YtknphmkblcbabaaGreatDoor
