/- Lists of strings of the call's own, sorted. -/
import Derived.Test.YtfkejnnbfneieaaGreatDoorEvtValid
import Derived.Test.YtfkejnnbfneieaaGreatDoorGrown
import Derived.Test.YtfkejnnbfneieaaGreatDoorShelf
import Derived.Lib.OwnBridge
import Derived.Sort.OwnSorted
namespace Go.Proofs.YtfkejnnbfneieaaGreatDoor
open Go.RowKit Go.Sort
open Evt

/-- The slice v, of the call's own, holds these strings. -/
def OwnS (B : Nat) (w : World) (v : Value) (ss : List (List UInt8)) : Prop := w.ownsRow B 9 1 v ss.length (ss.map encStr)
theorem info_strE : (Tryz.prog.info? 9).map (fun i => (i.zero, i.size, i.bytes)) = some (some (.string ⟨#[]⟩), 1, 16) := by kernel_rfl
namespace Evt
def srt (ss : List (List UInt8)) : List (List UInt8) := ss.mergeSort fun x y => decide (x ≤ y)
theorem srt_len (ss : List (List UInt8)) : (srt ss).length = ss.length := by unfold srt; simp
theorem srt_mem {ss : List (List UInt8)} {x : List UInt8} : x ∈ srt ss ↔ x ∈ ss := by unfold srt; simp
end Evt
theorem OwnS.nil (B : Nat) (w : World) : OwnS B w (.slice none 0 0) [] := World.ownsRow_nil _ _ _ _
theorem OwnS.shape {B : Nat} {w : World} {v : Value} {ss : List (List UInt8)} (h : OwnS B w v ss) : ∃ ao c, v = .slice ao ss.length c := owns_shapeM h
theorem OwnS.below {B : Nat} {w w' : World} {v : Value} {ss : List (List UInt8)} (h : OwnS B w v ss) (hb : Below w.heap.size w w') : OwnS B w' v ss := owns_belowM h hb
theorem grown_below {B : Nat} {W w w' : World} {v : Value} {ss : List (List UInt8)} (h : OwnS B w v ss) (hB : B = W.heap.size) (hw : Below W.heap.size W w) (hg : w.grownBy w' v.ownBlock) : Below W.heap.size W w' :=
  hw.grown hg hw.size (fun y e => by have := (World.ownsRow.lt h y e).1; omega)

theorem sort_own (B : Nat) (v : Value) (ss : List (List UInt8)) (hn : ss.length ≤ 1000000) (w : World) (h : OwnS B w v ss) :
    Calls Tryz.prog 58 #[v] w fun e w' => e = .returned (.tuple #[]) ∧ OwnS B w' v (srt ss) ∧ w.grownBy w' v.ownBlock := by
  have h' := h
  rcases h.2 with ⟨rfl, hnil⟩ | ⟨g, cap, cur, rfl, hbase, hb, h1, h2, h3, h4⟩
  · have hss : ss = [] := List.eq_nil_of_length_eq_zero hnil
    subst hss
    refine (Tryz.slices_Sort_string_none none 0 w).mono ?_
    rintro e w' ⟨rfl, rfl⟩
    exact ⟨rfl, by unfold srt; simpa using h', ⟨rfl, rfl, rfl, Nat.le_refl _, fun _ _ _ => rfl⟩⟩
  · have hlt : g < w.heap.size := (Array.getElem?_eq_some_iff.1 hb).1
    refine (Tryz.slices_Sort_string g 0 cap ss w (holds_of_block hb (by simpa using h4)) hlt (by omega)).mono ?_
    rintro e w' ⟨rfl, n, os, rfl⟩
    refine ⟨rfl, ?_, grownBy_sorted _⟩
    have := ownsRow_sorted (n := n) (os := os) (ss := ss) (ts := srt ss) (srt_len ss) hbase hb h1 h2 h3
    unfold OwnS
    rw [srt_len]
    exact this
end Go.Proofs.YtfkejnnbfneieaaGreatDoor
