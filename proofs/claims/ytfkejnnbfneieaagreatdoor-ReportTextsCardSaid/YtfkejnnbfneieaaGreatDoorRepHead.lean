/- The laws' head: values. -/
import Derived.Test.YtfkejnnbfneieaaGreatDoorRepText
import Derived.Test.YtfkejnnbfneieaaGreatDoorRepPick
import Derived.Test.YtfkejnnbfneieaaGreatDoorEvRun
namespace Go.Proofs.YtfkejnnbfneieaaGreatDoor
open Go.RowKit
open Evt

namespace Rph
def e1 : Ev := ⟨1, 3, ⟨#[97]⟩, ⟨#[97, 120, 108, 101]⟩, ⟨#[]⟩, ⟨#[]⟩, ⟨#[]⟩, ⟨#[]⟩, 0, 0, 0, 0, 0, 0⟩
def e2 : Ev := ⟨3, 5, ⟨#[97]⟩, ⟨#[]⟩, ⟨#[]⟩, ⟨#[]⟩, ⟨#[]⟩, ⟨#[]⟩, 0, 0, 0, 0, 0, 0⟩
def e3 : Ev := ⟨3, 5, ⟨#[98]⟩, ⟨#[]⟩, ⟨#[]⟩, ⟨#[]⟩, ⟨#[]⟩, ⟨#[]⟩, 0, 0, 0, 0, 0, 0⟩
def rA : Rp := ⟨[e1], false⟩
def rB : Rp := ⟨[e2, e3], true⟩
theorem evEq_refl (e : Ev) : evEq e e = true := evEq_iff.2 rfl
theorem valid1 : valid e1 = true := by
  unfold valid
  rw [show restOf e1 = zero from rfl, evEq_refl, show nm e1.part = true from by kernel_rfl, show okE e1 = true from by kernel_rfl]
  rfl
theorem valid2 : valid e2 = true := by
  unfold valid
  rw [show restOf e2 = zero from rfl, evEq_refl, show nm e2.part = true from by kernel_rfl, show okE e2 = true from by kernel_rfl]
  rfl
theorem valid3 : valid e3 = true := by
  unfold valid
  rw [show restOf e3 = zero from rfl, evEq_refl, show nm e3.part = true from by kernel_rfl, show okE e3 = true from by kernel_rfl]
  rfl
theorem ne32 : evEq e3 e2 = false := by
  cases h : evEq e3 e2 with
  | false => rfl
  | true => exact absurd (congrArg (fun e : Ev => e.part.data.toList) (evEq_iff.1 h)) (by decide)
theorem validA : validR rA = true := by
  unfold validR okUp rA
  simp [okAt, valid1]
theorem validB : validR rB = true := by
  unfold validR okUp rB
  simp [okAt, valid2, valid3, ne32, List.range_succ]
theorem choicesA : choices rA = 1 := by
  unfold choices
  rw [validA]
  rfl
theorem choicesB : choices rB = 3 := by
  unfold choices
  rw [validB]
  rfl
def tA : ByteArray := ⟨#[115, 117, 114, 101, 10, 109, 97, 107, 101, 32, 51, 32, 97, 32, 97, 120, 108, 101, 10]⟩
def tB : ByteArray := ⟨#[112, 101, 114, 104, 97, 112, 115, 10, 114, 101, 109, 111, 118, 101, 32, 53, 32, 97, 10, 114, 101, 109, 111, 118, 101, 32, 53, 32, 98, 10]⟩
theorem d3 : digs 3 = [51] := by unfold digs; rw [show (3 : Int).toNat = 3 from rfl, Lib.decDigits]; simp
theorem d5 : digs 5 = [53] := by unfold digs; rw [show (5 : Int).toNat = 5 from rfl, Lib.decDigits]; simp
theorem t1 : textE e1 = [109, 97, 107, 101, 32, 51, 32, 97, 32, 97, 120, 108, 101] := by
  unfold textE rowsE
  rw [show e1.day = 3 from rfl, d3]
  rfl
theorem t2 : textE e2 = [114, 101, 109, 111, 118, 101, 32, 53, 32, 97] := by
  unfold textE rowsE
  rw [show e2.day = 5 from rfl, d5]
  rfl
theorem t3 : textE e3 = [114, 101, 109, 111, 118, 101, 32, 53, 32, 98] := by
  unfold textE rowsE
  rw [show e3.day = 5 from rfl, d5]
  rfl
theorem textA : textR rA = tA := by
  show ((headB false ++ (⟨#[10]⟩ : ByteArray)) ++ lineE e1) = tA
  unfold lineE
  rw [t1]
  rfl
theorem textB : textR rB = tB := by
  show (((headB true ++ (⟨#[10]⟩ : ByteArray)) ++ lineE e2) ++ lineE e3) = tB
  unfold lineE
  rw [t2, t3]
  rfl
theorem pickB3 : pickB [rA, rB, rB] [0, 1, 2] = true := by
  unfold pickB pkAll pkOk
  simp [choicesA, choicesB]
theorem pickE3 : pickE [rA, rB, rB] [0, 1, 2] = 0 := by
  unfold pickE
  rw [pickB3]
  rfl
theorem pickF3 : pickF [rA, rB, rB] [0, 1, 2] = [e1, e3] := by
  unfold pickF
  rw [pickB3]
  rfl
theorem sz1 : Sz e1 := ⟨by unfold I64; decide, by unfold I64; decide, by unfold St; decide, by unfold St; decide, st_emp, st_emp, st_emp, st_emp, i64_zero, i64_zero, i64_zero, i64_zero, i64_zero, i64_zero⟩
theorem sz2 : Sz e2 := ⟨by unfold I64; decide, by unfold I64; decide, by unfold St; decide, st_emp, st_emp, st_emp, st_emp, st_emp, i64_zero, i64_zero, i64_zero, i64_zero, i64_zero, i64_zero⟩
theorem sz3 : Sz e3 := ⟨by unfold I64; decide, by unfold I64; decide, by unfold St; decide, st_emp, st_emp, st_emp, st_emp, st_emp, i64_zero, i64_zero, i64_zero, i64_zero, i64_zero, i64_zero⟩
end Rph
open Rph
/-- event.Text at the head's events. -/
def TxtE (e : Ev) : Prop := (textE e).length ≤ 1000000 ∧ ∀ W, WTab W → Tab W → Calls Tryz.prog 28 #[.agg (evC e).toArray] W fun x w' => x = .returned (.tuple #[.string ⟨(textE e).toArray⟩, .int .i64 0]) ∧ Below W.heap.size W w'
theorem txt1 : TxtE e1 := ⟨by rw [t1]; decide, fun W hT ht => evText_good e1 sz1 valid1 (by decide) (by decide) (by rw [t1]; decide) W hT ht⟩
theorem txt2 : TxtE e2 := ⟨by rw [t2]; decide, fun W hT ht => evText_good e2 sz2 valid2 (by decide) (by decide) (by rw [t2]; decide) W hT ht⟩
theorem txt3 : TxtE e3 := ⟨by rw [t3]; decide, fun W hT ht => evText_good e3 sz3 valid3 (by decide) (by decide) (by rw [t3]; decide) W hT ht⟩
theorem textA_any (oo : Option Addr) (oc : Nat) (h1 : 1 ≤ oc) (h2 : oc ≤ 9223372036854775807) (W : World) (hT : WTab W) (ht : Tab W) (hi : IsL 14 ElEv W oo [e1]) :
    Calls Tryz.prog 13 #[.agg #[.slice oo 1 oc, .bool false]] W fun e w' => e = .returned (.tuple #[.string tA, .int .i64 0]) ∧ Below W.heap.size W w' := by
  rw [← textA]
  exact repText_good rA oo oc h1 h2 validA (fun e he => by rw [show e = e1 from List.mem_singleton.1 he]; exact txt1) W hT ht hi
theorem textB_any (oo : Option Addr) (oc : Nat) (h1 : 2 ≤ oc) (h2 : oc ≤ 9223372036854775807) (W : World) (hT : WTab W) (ht : Tab W) (hi : IsL 14 ElEv W oo [e2, e3]) :
    Calls Tryz.prog 13 #[.agg #[.slice oo 2 oc, .bool true]] W fun e w' => e = .returned (.tuple #[.string tB, .int .i64 0]) ∧ Below W.heap.size W w' := by
  rw [← textB]
  refine repText_good rB oo oc h1 h2 validB (fun e he => ?_) W hT ht hi
  have he : e ∈ [e2, e3] := he
  simp only [List.mem_cons, List.not_mem_nil, or_false] at he
  rcases he with rfl | rfl
  · exact txt2
  · exact txt3
end Go.Proofs.YtfkejnnbfneieaaGreatDoor

/- The laws' head. -/
namespace Go.Proofs.YtfkejnnbfneieaaGreatDoor
open Go.RowKit
open Evt Rph

theorem four_new (W : World) (c1 c2 c3 c4 : Array Value) (t1 t2 t3 t4 : TypeId) :
    Whole ((((W.alloc (.cells c1 t1)).alloc (.cells c2 t2)).alloc (.cells c3 t3)).alloc (.cells c4 t4)) W.heap.size t1 c1 ∧
    Whole ((((W.alloc (.cells c1 t1)).alloc (.cells c2 t2)).alloc (.cells c3 t3)).alloc (.cells c4 t4)) (W.heap.size + 1) t2 c2 ∧
    Whole ((((W.alloc (.cells c1 t1)).alloc (.cells c2 t2)).alloc (.cells c3 t3)).alloc (.cells c4 t4)) (W.heap.size + 1 + 1) t3 c3 ∧
    Whole ((((W.alloc (.cells c1 t1)).alloc (.cells c2 t2)).alloc (.cells c3 t3)).alloc (.cells c4 t4)) (W.heap.size + 1 + 1 + 1) t4 c4 ∧
    Below W.heap.size W ((((W.alloc (.cells c1 t1)).alloc (.cells c2 t2)).alloc (.cells c3 t3)).alloc (.cells c4 t4)) := by
  have s1 : (W.alloc (.cells c1 t1)).heap.size = W.heap.size + 1 := size_alloc _ _
  have s2 : ((W.alloc (.cells c1 t1)).alloc (.cells c2 t2)).heap.size = W.heap.size + 1 + 1 := by rw [size_alloc, s1]
  have s3 : (((W.alloc (.cells c1 t1)).alloc (.cells c2 t2)).alloc (.cells c3 t3)).heap.size = W.heap.size + 1 + 1 + 1 := by rw [size_alloc, s2]
  refine ⟨(((Whole.new _ _ _).alloc _).alloc _).alloc _, ?_, ?_, ?_, ?_⟩
  · have := Whole.new (W.alloc (.cells c1 t1)) t2 c2
    rw [s1] at this
    exact (this.alloc _).alloc _
  · have := Whole.new ((W.alloc (.cells c1 t1)).alloc (.cells c2 t2)) t3 c3
    rw [s2] at this
    exact this.alloc _
  · have := Whole.new (((W.alloc (.cells c1 t1)).alloc (.cells c2 t2)).alloc (.cells c3 t3)) t4 c4
    rw [s3] at this
    exact this
  · exact ((((Below.refl _ _).alloc (Nat.le_refl _) _).alloc (by rw [s1]; omega) _).alloc (by rw [s2]; omega) _).alloc (by rw [s3]; omega) _
theorem isL_e1 {V : World} {g : Nat} (h : Whole V g 50 (evC e1).toArray) : IsL 14 ElEv V (some ⟨g, 0, none⟩) [e1] := by
  refine IsL.whole (t := 50) (css := [evC e1]) (by simpa using h) rfl (by simp [evC_len]) ?_
  intro k hk hk'
  obtain rfl : k = 0 := by simp at hk; exact hk
  exact ⟨rfl, sz1⟩
theorem isL_e23 {V : World} {g : Nat} (h : Whole V g 50 (evC e2 ++ evC e3).toArray) : IsL 14 ElEv V (some ⟨g, 0, none⟩) [e2, e3] := by
  refine IsL.whole (t := 50) (css := [evC e2, evC e3]) (by simpa using h) rfl (by simp [evC_len]) ?_
  intro k hk hk'
  have hk2 : k = 0 ∨ k = 1 := by simp at hk; omega
  rcases hk2 with rfl | rfl
  · exact ⟨rfl, sz2⟩
  · exact ⟨rfl, sz3⟩
theorem two_newP (W : World) (c1 c2 : Array Value) (t1 t2 : TypeId) : Whole ((W.alloc (.cells c1 t1)).alloc (.cells c2 t2)) W.heap.size t1 c1 ∧ Whole ((W.alloc (.cells c1 t1)).alloc (.cells c2 t2)) (W.heap.size + 1) t2 c2 ∧ Below W.heap.size W ((W.alloc (.cells c1 t1)).alloc (.cells c2 t2)) := by
  have s1 : (W.alloc (.cells c1 t1)).heap.size = W.heap.size + 1 := size_alloc _ _
  refine ⟨(Whole.new _ _ _).alloc _, ?_, ((Below.refl _ _).alloc (Nat.le_refl _) _).alloc (by rw [s1]; omega) _⟩
  have := Whole.new (W.alloc (.cells c1 t1)) t2 c2
  rw [s1] at this
  exact this
theorem isL_three {V : World} {g S : Nat} (h : Whole V g 31 #[.slice (some ⟨S, 0, none⟩) 1 1, .bool false, .slice (some ⟨S + 1 + 1, 0, none⟩) 2 2, .bool true, .slice (some ⟨S + 1 + 1, 0, none⟩) 2 2, .bool true])
    (h1 : IsL 14 ElEv V (some ⟨S, 0, none⟩) [e1]) (h2 : IsL 14 ElEv V (some ⟨S + 1 + 1, 0, none⟩) [e2, e3]) : IsL 2 ElRp V (some ⟨g, 0, none⟩) [rA, rB, rB] := by
  refine IsL.whole (t := 31) (css := [[.slice (some ⟨S, 0, none⟩) 1 1, .bool false], [.slice (some ⟨S + 1 + 1, 0, none⟩) 2 2, .bool true], [.slice (some ⟨S + 1 + 1, 0, none⟩) 2 2, .bool true]]) (by simpa using h) rfl (by simp) ?_
  intro k hk hk'
  have hk2 : k = 0 ∨ k = 1 ∨ k = 2 := by simp at hk; omega
  rcases hk2 with rfl | rfl | rfl
  · exact ⟨_, _, rfl, h1, Nat.le_refl _, by omega⟩
  · exact ⟨_, _, rfl, h2, Nat.le_refl _, by omega⟩
  · exact ⟨_, _, rfl, h2, Nat.le_refl _, by omega⟩
theorem isL_012 {V : World} {g : Nat} (h : Whole V g 3 #[.int .i64 0, .int .i64 1, .int .i64 2]) : IsL 1 ElZ V (some ⟨g, 0, none⟩) [0, 1, 2] := by
  refine IsL.whole (t := 3) (css := [[.int .i64 0], [.int .i64 1], [.int .i64 2]]) (by simpa using h) rfl (by simp) ?_
  intro k hk hk'
  have hk2 : k = 0 ∨ k = 1 ∨ k = 2 := by simp at hk; omega
  rcases hk2 with rfl | rfl | rfl <;> rfl
theorem pick_head {W : World} {g S : Nat} (h1 : IsL 2 ElRp W (some ⟨g, 0, none⟩) [rA, rB, rB]) (h2 : IsL 1 ElZ W (some ⟨S, 0, none⟩) [0, 1, 2]) :
    Calls Tryz.prog 7 #[.slice (some ⟨g, 0, none⟩) 3 3, .slice (some ⟨S, 0, none⟩) 3 3] W fun e w' => ∃ v, e = .returned (.tuple #[v, .int .i64 0]) ∧ OwnE W.heap.size w' v [e1, e3] ∧ Below W.heap.size W w' := by
  have := repPicked_any [rA, rB, rB] (some ⟨g, 0, none⟩) 3 (by simp) [0, 1, 2] (some ⟨S, 0, none⟩) 3 (by simp) W h1 h2
  rw [pickE3, pickF3] at this
  exact this
theorem OwnE.cells {B : Nat} {w : World} {v : Value} {es : List Ev} (h : OwnE B w v es) (hne : es ≠ []) : ∃ g c, v = .slice (some ⟨g, 0, none⟩) es.length c ∧ g < w.heap.size ∧ ∀ i u, (es.flatMap evC)[i]? = some u → w.cell? ⟨g, i, none⟩ = some u := by
  have hl := h.row.1
  rcases h.row.2 with ⟨_, hnil⟩ | ⟨g, cap, cur, rfl, hbase, hb, h1, h2, h3, h4⟩
  · exact absurd (List.eq_nil_of_length_eq_zero hnil) hne
  · refine ⟨g, cap, rfl, (Array.getElem?_eq_some_iff.1 hb).1, fun i u hu => ?_⟩
    have hw : Whole w g 50 cur := hb
    have hi := (List.getElem?_eq_some_iff.1 hu).1
    rw [hw.cell, ← Array.getElem?_toList]
    rw [← h4, List.getElem?_take_of_lt (by omega)] at hu
    exact hu
end Go.Proofs.YtfkejnnbfneieaaGreatDoor

/- The laws' head: the walk. -/
namespace Go.Proofs.YtfkejnnbfneieaaGreatDoor
open Go.RowKit
open Evt Rph

def hdP (S pb pc : Nat) : Nat → Value → World → Prop
  | 0, v, _ => v = .string tA
  | 1, v, _ => v = .bool true
  | 2, v, _ => v = .bool true
  | 3, v, _ => v = .string tB
  | 4, v, _ => v = .bool true
  | 5, v, _ => v = .bool true
  | 6, v, _ => v = .bool true
  | 7, v, _ => v = .agg #[.slice (some ⟨S, 0, none⟩) 1 1, .bool false]
  | 8, v, _ => v = .int .i64 1
  | 9, v, _ => v = .bool true
  | 10, v, _ => v = .bool true
  | 11, v, _ => v = .bool true
  | 12, v, _ => v = .agg #[.slice (some ⟨S + 1 + 1, 0, none⟩) 2 2, .bool true]
  | 13, v, _ => v = .int .i64 3
  | 14, v, _ => v = .bool true
  | 15, v, _ => v = .bool true
  | 16, v, _ => v = .bool true
  | 17, v, _ => v = .slice (some ⟨pb, 0, none⟩) 2 pc
  | 18, v, _ => v = .pointer (some ⟨pb, 0, none⟩)
  | 19, v, _ => v = .agg (evC e1).toArray
  | 20, v, _ => v = .pointer (some ⟨S + 1, 0, none⟩)
  | 21, v, _ => v = .slice (some ⟨S, 0, none⟩) 1 1
  | 22, v, _ => v = .pointer (some ⟨S, 0, none⟩)
  | 23, v, _ => v = .agg (evC e1).toArray
  | 24, v, _ => v = .bool true
  | 25, v, _ => v = .bool true
  | 26, v, _ => v = .bool true
  | 27, v, _ => v = .slice (some ⟨pb, 0, none⟩) 2 pc
  | 28, v, _ => v = .pointer (some ⟨pb, 14, none⟩)
  | 29, v, _ => v = .agg (evC e3).toArray
  | 30, v, _ => v = .pointer (some ⟨S + 1 + 1 + 1, 0, none⟩)
  | 31, v, _ => v = .slice (some ⟨S + 1 + 1, 0, none⟩) 2 2
  | 32, v, _ => v = .pointer (some ⟨S + 1 + 1, 14, none⟩)
  | 33, v, _ => v = .agg (evC e3).toArray
  | 34, v, _ => v = .bool true
  | 35, v, _ => v = .bool true
  | 36, v, _ => v = .bool true
  | _, _, _ => True
theorem hdP_below {S pb pc : Nat} : ∀ j u w w', hdP S pb pc j u w → Below w.heap.size w w' → hdP S pb pc j u w'
  | 0, _, _, _, h, _ => h
  | 1, _, _, _, h, _ => h
  | 2, _, _, _, h, _ => h
  | 3, _, _, _, h, _ => h
  | 4, _, _, _, h, _ => h
  | 5, _, _, _, h, _ => h
  | 6, _, _, _, h, _ => h
  | 7, _, _, _, h, _ => h
  | 8, _, _, _, h, _ => h
  | 9, _, _, _, h, _ => h
  | 10, _, _, _, h, _ => h
  | 11, _, _, _, h, _ => h
  | 12, _, _, _, h, _ => h
  | 13, _, _, _, h, _ => h
  | 14, _, _, _, h, _ => h
  | 15, _, _, _, h, _ => h
  | 16, _, _, _, h, _ => h
  | 17, _, _, _, h, _ => h
  | 18, _, _, _, h, _ => h
  | 19, _, _, _, h, _ => h
  | 20, _, _, _, h, _ => h
  | 21, _, _, _, h, _ => h
  | 22, _, _, _, h, _ => h
  | 23, _, _, _, h, _ => h
  | 24, _, _, _, h, _ => h
  | 25, _, _, _, h, _ => h
  | 26, _, _, _, h, _ => h
  | 27, _, _, _, h, _ => h
  | 28, _, _, _, h, _ => h
  | 29, _, _, _, h, _ => h
  | 30, _, _, _, h, _ => h
  | 31, _, _, _, h, _ => h
  | 32, _, _, _, h, _ => h
  | 33, _, _, _, h, _ => h
  | 34, _, _, _, h, _ => h
  | 35, _, _, _, h, _ => h
  | 36, _, _, _, h, _ => h
  | _ + 37, _, _, _, _, _ => trivial
set_option maxRecDepth 100000 in
set_option maxHeartbeats 8000000 in
theorem head13_any (W : World) (hT : WTab W) (ht : Tab W) : Calls Tryz.prog 5 #[] W fun e w' => e = .returned (.bool true) ∧ Below W.heap.size W w' := by
  have HT := Lib.hid (And.intro hT ht)
  clear hT ht
  obtain ⟨sA, HsA⟩ : ∃ s, Hid (s = tA) := ⟨_, Lib.hid rfl⟩
  obtain ⟨sB, HsB⟩ : ∃ s, Hid (s = tB) := ⟨_, Lib.hid rfl⟩
  obtain ⟨V, HV⟩ : ∃ V, Hid (V = (((W.alloc (.cells #[.int .i64 1, .int .i64 3, .string ⟨#[97]⟩, .string ⟨#[97, 120, 108, 101]⟩, .string ⟨#[]⟩, .string ⟨#[]⟩, .string ⟨#[]⟩, .string ⟨#[]⟩, .int .i64 0, .int .i64 0, .int .i64 0, .int .i64 0, .int .i64 0, .int .i64 0] 50)).alloc (.cells #[.slice (some ⟨W.heap.size, 0, none⟩) 1 1, .bool false] 31)).alloc (.cells #[.int .i64 3, .int .i64 5, .string ⟨#[97]⟩, .string ⟨#[]⟩, .string ⟨#[]⟩, .string ⟨#[]⟩, .string ⟨#[]⟩, .string ⟨#[]⟩, .int .i64 0, .int .i64 0, .int .i64 0, .int .i64 0, .int .i64 0, .int .i64 0, .int .i64 3, .int .i64 5, .string ⟨#[98]⟩, .string ⟨#[]⟩, .string ⟨#[]⟩, .string ⟨#[]⟩, .string ⟨#[]⟩, .string ⟨#[]⟩, .int .i64 0, .int .i64 0, .int .i64 0, .int .i64 0, .int .i64 0, .int .i64 0] 50)).alloc (.cells #[.slice (some ⟨W.heap.size + 1 + 1, 0, none⟩) 2 2, .bool true] 31)) := ⟨_, Lib.hid rfl⟩
  have hF := four_new W #[.int .i64 1, .int .i64 3, .string ⟨#[97]⟩, .string ⟨#[97, 120, 108, 101]⟩, .string ⟨#[]⟩, .string ⟨#[]⟩, .string ⟨#[]⟩, .string ⟨#[]⟩, .int .i64 0, .int .i64 0, .int .i64 0, .int .i64 0, .int .i64 0, .int .i64 0] #[.slice (some ⟨W.heap.size, 0, none⟩) 1 1, .bool false] #[.int .i64 3, .int .i64 5, .string ⟨#[97]⟩, .string ⟨#[]⟩, .string ⟨#[]⟩, .string ⟨#[]⟩, .string ⟨#[]⟩, .string ⟨#[]⟩, .int .i64 0, .int .i64 0, .int .i64 0, .int .i64 0, .int .i64 0, .int .i64 0, .int .i64 3, .int .i64 5, .string ⟨#[98]⟩, .string ⟨#[]⟩, .string ⟨#[]⟩, .string ⟨#[]⟩, .string ⟨#[]⟩, .string ⟨#[]⟩, .int .i64 0, .int .i64 0, .int .i64 0, .int .i64 0, .int .i64 0, .int .i64 0] #[.slice (some ⟨W.heap.size + 1 + 1, 0, none⟩) 2 2, .bool true] 50 31 50 31
  rw [← HV.out] at hF
  obtain ⟨S, HS⟩ : ∃ S, Hid (S = W.heap.size) := ⟨_, Lib.hid rfl⟩
  rw [← HS.out] at hF HV
  obtain ⟨w1, w2, w3, w4, hB⟩ := hF
  have HW1 : Hid (Whole V S 50 (evC e1).toArray) := Lib.hid w1
  have HW2 := Lib.hid w2
  have HW3 : Hid (Whole V (S + 1 + 1) 50 (evC e2 ++ evC e3).toArray) := Lib.hid w3
  have HW4 := Lib.hid w4
  have HB : Hid (Below W.heap.size W V) := Lib.hid (by rw [← HS.out]; exact hB)
  have HL1 := Lib.hid (isL_e1 HW1.out)
  have HL2 := Lib.hid (isL_e23 HW3.out)
  clear w1 w2 w3 w4 hB
  go_enter Tryz.func5, Tryz.ntmps5
  go_wp2_with (first
    | (with_reducible show wpList _ _ _ (Oper.mk _ (Op.load 31 _) _ _ _ _ :: _) _ _; refine Hid.out ?_))
  refine Lib.hid ?_
  rw [← HS.out, ← HV.out]
  have a0 : V.cell? ⟨S + 1, 0, none⟩ = some (.slice (some ⟨S, 0, none⟩) 1 1) := HW2.out.cell 0
  have a1 : V.cell? ⟨S + 1, 1, none⟩ = some (.bool false) := HW2.out.cell 1
  go_wp2_with fail
  have hTA := textA_any (some ⟨S, 0, none⟩) 1 (Nat.le_refl _) (by omega) V (HT.out.1.below HB.out) (HT.out.2.below HB.out) HL1.out
  rw [← HsA.out] at hTA
  refine hTA.mono ?_
  clear hTA
  rintro e V1 ⟨rfl, hb1⟩
  have HB1 := Lib.hid (below_step HB.out hb1)
  have HBV1 := Lib.hid hb1
  have b0 : V1.cell? ⟨S + 1 + 1 + 1, 0, none⟩ = some (.slice (some ⟨S + 1 + 1, 0, none⟩) 2 2) := (whole_belowM HW4.out hb1).cell 0
  have b1 : V1.cell? ⟨S + 1 + 1 + 1, 1, none⟩ = some (.bool true) := (whole_belowM HW4.out hb1).cell 1
  clear hb1 a0 a1
  go_wp2_with fail
  have hTB := textB_any (some ⟨S + 1 + 1, 0, none⟩) 2 (Nat.le_refl _) (by omega) V1 (HT.out.1.below HB1.out) (HT.out.2.below HB1.out) (HL2.out.below stEv HBV1.out)
  rw [← HsB.out] at hTB
  refine hTB.mono ?_
  clear hTB
  rintro e V2 ⟨rfl, hb2⟩
  have HB2 := Lib.hid (below_step HB1.out hb2)
  have HBV2 := Lib.hid (below_step HBV1.out hb2)
  clear hb2 b0 b1
  have a0 : V2.cell? ⟨S + 1, 0, none⟩ = some (.slice (some ⟨S, 0, none⟩) 1 1) := (whole_belowM HW2.out HBV2.out).cell 0
  have a1 : V2.cell? ⟨S + 1, 1, none⟩ = some (.bool false) := (whole_belowM HW2.out HBV2.out).cell 1
  have b0 : V2.cell? ⟨S + 1 + 1 + 1, 0, none⟩ = some (.slice (some ⟨S + 1 + 1, 0, none⟩) 2 2) := (whole_belowM HW4.out HBV2.out).cell 0
  have b1 : V2.cell? ⟨S + 1 + 1 + 1, 1, none⟩ = some (.bool true) := (whole_belowM HW4.out HBV2.out).cell 1
  go_wp2_with fail
  obtain ⟨V4, HV4⟩ : ∃ V, Hid (V = (V2.alloc (.cells #[.slice (some ⟨S, 0, none⟩) 1 1, .bool false, .slice (some ⟨S + 1 + 1, 0, none⟩) 2 2, .bool true, .slice (some ⟨S + 1 + 1, 0, none⟩) 2 2, .bool true] 31)).alloc (.cells #[.int .i64 0, .int .i64 1, .int .i64 2] 3)) := ⟨_, Lib.hid rfl⟩
  have hF := two_newP V2 #[.slice (some ⟨S, 0, none⟩) 1 1, .bool false, .slice (some ⟨S + 1 + 1, 0, none⟩) 2 2, .bool true, .slice (some ⟨S + 1 + 1, 0, none⟩) 2 2, .bool true] #[.int .i64 0, .int .i64 1, .int .i64 2] 31 3
  rw [← HV4.out] at hF ⊢
  obtain ⟨m1, m2, hb4⟩ := hF
  have HBV4 := Lib.hid (below_step HBV2.out hb4)
  have HB4 := Lib.hid (below_step HB2.out hb4)
  have hL := isL_three m1 (HL1.out.below stEv HBV4.out) (HL2.out.below stEv HBV4.out)
  have hC := isL_012 m2
  refine (pick_head hL hC).mono ?_
  rintro e w5 ⟨v, rfl, ho, hb5⟩
  have HB5 := Lib.hid (below_step HB4.out hb5)
  have HBV5 := Lib.hid (below_step HBV4.out hb5)
  obtain ⟨pb, pc, rfl, hpb, hcl⟩ := ho.cells (by simp)
  have hx1 := whole_belowM HW1.out HBV5.out
  have hx2 := whole_belowM HW2.out HBV5.out
  have hx3 := whole_belowM HW3.out HBV5.out
  have hx4 := whole_belowM HW4.out HBV5.out
  have HR1 := Lib.hid (fun (w : World) (hw : Below w5.heap.size w5 w) => Whole.range (cs := [.slice (some ⟨S, 0, none⟩) 1 1, .bool false]) (whole_belowM hx2 hw))
  have HR2 := Lib.hid (fun (w : World) (hw : Below w5.heap.size w5 w) => Whole.range (cs := [.slice (some ⟨S + 1 + 1, 0, none⟩) 2 2, .bool true]) (whole_belowM hx4 hw))
  have HR1c := Lib.hid (fun (w : World) (hw : Below w5.heap.size w5 w) => ((whole_belowM hx2 hw).cell 0 : w.cell? ⟨S + 1, 0, none⟩ = some (.slice (some ⟨S, 0, none⟩) 1 1)))
  have HR2c := Lib.hid (fun (w : World) (hw : Below w5.heap.size w5 w) => ((whole_belowM hx4 hw).cell 0 : w.cell? ⟨S + 1 + 1 + 1, 0, none⟩ = some (.slice (some ⟨S + 1 + 1, 0, none⟩) 2 2)))
  have HE1 := Lib.hid (fun (w : World) (hw : Below w5.heap.size w5 w) => Whole.range (whole_belowM hx1 hw))
  have HE3 := Lib.hid (fun (w : World) (hw : Below w5.heap.size w5 w) => (fun j u hu => by
    have h := Whole.range (whole_belowM hx3 hw) (14 + j) u (by rw [List.getElem?_append_right (by rw [evC_len]; omega), evC_len, Nat.add_sub_cancel_left]; exact hu)
    rw [← Nat.add_assoc, Nat.zero_add] at h; exact h : w.rangeAt (S + 1 + 1) 14 (evC e3)))
  have HP1 := Lib.hid (fun (w : World) (hw : Below w5.heap.size w5 w) => (fun j u hu => by
    rw [Nat.zero_add]
    exact (cellB hw hpb).trans (hcl j u (by
      have hj := (List.getElem?_eq_some_iff.1 hu).1
      simp only [List.flatMap_cons, List.flatMap_nil, List.append_nil]
      rw [List.getElem?_append_left hj]; exact hu)) : w.rangeAt pb 0 (evC e1)))
  have HP3 := Lib.hid (fun (w : World) (hw : Below w5.heap.size w5 w) => (fun j u hu => by
    exact (cellB hw hpb).trans (hcl (14 + j) u (by
      simp only [List.flatMap_cons, List.flatMap_nil, List.append_nil]
      rw [List.getElem?_append_right (by rw [evC_len]; omega), evC_len, Nat.add_sub_cancel_left]; exact hu)) : w.rangeAt pb 14 (evC e3)))
  have HC1 := Lib.hid (fun (w : World) (hw : Below w5.heap.size w5 w) => choices_any rA (some ⟨S, 0, none⟩) 1 (Nat.le_refl _) (by omega) w ((HL1.out.below stEv HBV5.out).below stEv hw))
  have HC2 := Lib.hid (fun (w : World) (hw : Below w5.heap.size w5 w) => choices_any rB (some ⟨S + 1 + 1, 0, none⟩) 2 (Nat.le_refl _) (by omega) w ((HL2.out.below stEv HBV5.out).below stEv hw))
  rw [choicesA] at HC1
  rw [choicesB] at HC2
  rw [HsA.out, HsB.out]
  clear a0 a1 b0 b1 hb5 hb4 m1 m2 hL hC ho hcl hpb hx1 hx2 hx3 hx4
  go_wp2_with fail
  apply wp_region_monoG 86 (hdP S pb pc) hdP_below (by kernel_rfl) (by kernel_rfl) rfl
  · intro i o g b ho hgd u w hu
    have hi : i < 37 := by have := (List.getElem?_eq_some_iff.1 ho).1; simpa using this
    have hi : i = 0 ∨ i = 1 ∨ i = 2 ∨ i = 3 ∨ i = 4 ∨ i = 5 ∨ i = 6 ∨ i = 7 ∨ i = 8 ∨ i = 9 ∨ i = 10 ∨ i = 11 ∨ i = 12 ∨ i = 13 ∨ i = 14 ∨ i = 15 ∨ i = 16 ∨ i = 17 ∨ i = 18 ∨ i = 19 ∨ i = 20 ∨ i = 21 ∨ i = 22 ∨ i = 23 ∨ i = 24 ∨ i = 25 ∨ i = 26 ∨ i = 27 ∨ i = 28 ∨ i = 29 ∨ i = 30 ∨ i = 31 ∨ i = 32 ∨ i = 33 ∨ i = 34 ∨ i = 35 ∨ i = 36 := by omega
    rcases hi with rfl | rfl | rfl | rfl | rfl | rfl | rfl | rfl | rfl | rfl | rfl | rfl | rfl | rfl | rfl | rfl | rfl | rfl | rfl | rfl | rfl | rfl | rfl | rfl | rfl | rfl | rfl | rfl | rfl | rfl | rfl | rfl | rfl | rfl | rfl | rfl | rfl
    all_goals
      simp only [List.getElem?_cons_succ, List.getElem?_cons_zero, Option.some.injEq] at ho
      subst ho
      cases hgd
      all_goals exact hu
  · intro i o ho w A' hlow hsee haway
    have q1 : A'.eval (.tmp 1) = .pointer (some ⟨S + 1, 0, none⟩) := (haway 1 (by kernel_rfl)).trans rfl
    have q2 : A'.eval (.tmp 2) = .pointer (some ⟨S + 1 + 1 + 1, 0, none⟩) := (haway 2 (by kernel_rfl)).trans rfl
    have q3 : A'.eval (.tmp 3) = .string tA := (haway 3 (by kernel_rfl)).trans rfl
    have q5 : A'.eval (.tmp 5) = .string tB := (haway 5 (by kernel_rfl)).trans rfl
    have q7 : A'.eval (.tmp 7) = .slice (some ⟨pb, 0, none⟩) 2 pc := (haway 7 (by kernel_rfl)).trans rfl
    have hi : i < 37 := by have := (List.getElem?_eq_some_iff.1 ho).1; simpa using this
    have hi : i = 0 ∨ i = 1 ∨ i = 2 ∨ i = 3 ∨ i = 4 ∨ i = 5 ∨ i = 6 ∨ i = 7 ∨ i = 8 ∨ i = 9 ∨ i = 10 ∨ i = 11 ∨ i = 12 ∨ i = 13 ∨ i = 14 ∨ i = 15 ∨ i = 16 ∨ i = 17 ∨ i = 18 ∨ i = 19 ∨ i = 20 ∨ i = 21 ∨ i = 22 ∨ i = 23 ∨ i = 24 ∨ i = 25 ∨ i = 26 ∨ i = 27 ∨ i = 28 ∨ i = 29 ∨ i = 30 ∨ i = 31 ∨ i = 32 ∨ i = 33 ∨ i = 34 ∨ i = 35 ∨ i = 36 := by omega
    rcases hi with rfl | rfl | rfl | rfl | rfl | rfl | rfl | rfl | rfl | rfl | rfl | rfl | rfl | rfl | rfl | rfl | rfl | rfl | rfl | rfl | rfl | rfl | rfl | rfl | rfl | rfl | rfl | rfl | rfl | rfl | rfl | rfl | rfl | rfl | rfl | rfl | rfl
    all_goals
      simp only [List.getElem?_cons_succ, List.getElem?_cons_zero, Option.some.injEq] at ho
      subst ho
    · exact wp_of_runL (rMove _ _ _ _ _ A' w (.tmp 3) _ q3) ⟨_, rfl, Below.refl _ _, rfl⟩
    · have q50 : A'.eval (.tmp 50) = .string tA := hsee 50 0 (by kernel_rfl) (by kernel_rfl)
      exact wp_of_runL (rEqlStrT _ _ _ _ _ A' w _ _ (.tmp 50) _ tA q50 rfl) ⟨_, rfl, Below.refl _ _, rfl⟩
    · have q51 : A'.eval (.tmp 51) = .bool true := hsee 51 1 (by kernel_rfl) (by kernel_rfl)
      exact wp_of_runL (rMove _ _ _ _ _ A' w (.tmp 51) _ q51) ⟨_, rfl, Below.refl _ _, rfl⟩
    · exact wp_of_runL (rMove _ _ _ _ _ A' w (.tmp 5) _ q5) ⟨_, rfl, Below.refl _ _, rfl⟩
    · have q53 : A'.eval (.tmp 53) = .string tB := hsee 53 3 (by kernel_rfl) (by kernel_rfl)
      exact wp_of_runL (rEqlStrT _ _ _ _ _ A' w _ _ (.tmp 53) _ tB q53 rfl) ⟨_, rfl, Below.refl _ _, rfl⟩
    · have q52 : A'.eval (.tmp 52) = .bool true := hsee 52 2 (by kernel_rfl) (by kernel_rfl)
      have q54 : A'.eval (.tmp 54) = .bool true := hsee 54 4 (by kernel_rfl) (by kernel_rfl)
      exact wp_of_runL (rPick _ _ _ _ _ A' w (.tmp 52) (.tmp 54) (.const (Value.bool false)) _ _ q52 (by rw [if_pos rfl]; exact q54)) ⟨_, rfl, Below.refl _ _, rfl⟩
    · have q55 : A'.eval (.tmp 55) = .bool true := hsee 55 5 (by kernel_rfl) (by kernel_rfl)
      exact wp_of_runL (rMove _ _ _ _ _ A' w (.tmp 55) _ q55) ⟨_, rfl, Below.refl _ _, rfl⟩
    · exact wp_of_runL (rLoad _ _ _ _ _ A' w 31 (.tmp 1) (S + 1) 0 [.slice (some ⟨S, 0, none⟩) 1 1, .bool false] _ (HR1.out w hlow) Tryz.underlying31 rfl (by kernel_rfl) q1) ⟨_, rfl, Below.refl _ _, rfl⟩
    · have q57 : A'.eval (.tmp 57) = .agg #[.slice (some ⟨S, 0, none⟩) 1 1, .bool false] := hsee 57 7 (by kernel_rfl) (by kernel_rfl)
      refine wp_of_callL _ _ _ _ _ _ _ 17 _ [.tmp 57] [.agg #[.slice (some ⟨S, 0, none⟩) 1 1, .bool false]] (by simp [q57]) (by kernel_rfl) ((HC1.out w hlow).mono ?_)
      rintro e w2 ⟨rfl, hb2⟩
      exact ⟨_, rfl, _, rfl, hb2, rfl⟩
    · have q58 : A'.eval (.tmp 58) = .int .i64 1 := hsee 58 8 (by kernel_rfl) (by kernel_rfl)
      exact wp_of_runL (rEqlInt _ _ _ _ _ A' w _ _ (.tmp 58) _ 1 1 q58 rfl) ⟨_, rfl, Below.refl _ _, rfl⟩
    · have q56 : A'.eval (.tmp 56) = .bool true := hsee 56 6 (by kernel_rfl) (by kernel_rfl)
      have q59 : A'.eval (.tmp 59) = .bool true := hsee 59 9 (by kernel_rfl) (by kernel_rfl)
      exact wp_of_runL (rPick _ _ _ _ _ A' w (.tmp 56) (.tmp 59) (.const (Value.bool false)) _ _ q56 (by rw [if_pos rfl]; exact q59)) ⟨_, rfl, Below.refl _ _, rfl⟩
    · have q60 : A'.eval (.tmp 60) = .bool true := hsee 60 10 (by kernel_rfl) (by kernel_rfl)
      exact wp_of_runL (rMove _ _ _ _ _ A' w (.tmp 60) _ q60) ⟨_, rfl, Below.refl _ _, rfl⟩
    · exact wp_of_runL (rLoad _ _ _ _ _ A' w 31 (.tmp 2) (S + 1 + 1 + 1) 0 [.slice (some ⟨S + 1 + 1, 0, none⟩) 2 2, .bool true] _ (HR2.out w hlow) Tryz.underlying31 rfl (by kernel_rfl) q2) ⟨_, rfl, Below.refl _ _, rfl⟩
    · have q62 : A'.eval (.tmp 62) = .agg #[.slice (some ⟨S + 1 + 1, 0, none⟩) 2 2, .bool true] := hsee 62 12 (by kernel_rfl) (by kernel_rfl)
      refine wp_of_callL _ _ _ _ _ _ _ 17 _ [.tmp 62] [.agg #[.slice (some ⟨S + 1 + 1, 0, none⟩) 2 2, .bool true]] (by simp [q62]) (by kernel_rfl) ((HC2.out w hlow).mono ?_)
      rintro e w2 ⟨rfl, hb2⟩
      exact ⟨_, rfl, _, rfl, hb2, rfl⟩
    · have q63 : A'.eval (.tmp 63) = .int .i64 3 := hsee 63 13 (by kernel_rfl) (by kernel_rfl)
      exact wp_of_runL (rEqlInt _ _ _ _ _ A' w _ _ (.tmp 63) _ 3 3 q63 rfl) ⟨_, rfl, Below.refl _ _, rfl⟩
    · have q61 : A'.eval (.tmp 61) = .bool true := hsee 61 11 (by kernel_rfl) (by kernel_rfl)
      have q64 : A'.eval (.tmp 64) = .bool true := hsee 64 14 (by kernel_rfl) (by kernel_rfl)
      exact wp_of_runL (rPick _ _ _ _ _ A' w (.tmp 61) (.tmp 64) (.const (Value.bool false)) _ _ q61 (by rw [if_pos rfl]; exact q64)) ⟨_, rfl, Below.refl _ _, rfl⟩
    · have q65 : A'.eval (.tmp 65) = .bool true := hsee 65 15 (by kernel_rfl) (by kernel_rfl)
      exact wp_of_runL (rMove _ _ _ _ _ A' w (.tmp 65) _ q65) ⟨_, rfl, Below.refl _ _, rfl⟩
    · exact wp_of_runL (rMove _ _ _ _ _ A' w (.tmp 7) _ q7) ⟨_, rfl, Below.refl _ _, rfl⟩
    · have q67 : A'.eval (.tmp 67) = .slice (some ⟨pb, 0, none⟩) 2 pc := hsee 67 17 (by kernel_rfl) (by kernel_rfl)
      exact wp_of_runL (rIndex _ _ _ _ _ A' w 26 50 14 (.tmp 67) (.const (.int .i64 0)) pb 0 2 pc 0 0 Tryz.underlying26 (by kernel_rfl) (by omega) (by omega) q67 rfl) ⟨_, rfl, Below.refl _ _, rfl⟩
    · have q68 : A'.eval (.tmp 68) = .pointer (some ⟨pb, 0, none⟩) := hsee 68 18 (by kernel_rfl) (by kernel_rfl)
      exact wp_of_runL (rLoad _ _ _ _ _ A' w 50 (.tmp 68) pb 0 (evC e1) _ (HP1.out w hlow) Tryz.underlying50 rfl (by kernel_rfl) q68) ⟨_, rfl, Below.refl _ _, rfl⟩
    · exact wp_of_runL (rField _ _ _ _ _ A' w 31 (.tmp 1) 0 (S + 1) 0 0 _ _ Tryz.underlying31 rfl (by kernel_rfl) rfl (by kernel_rfl) q1) ⟨_, rfl, Below.refl _ _, rfl⟩
    · have q70 : A'.eval (.tmp 70) = .pointer (some ⟨S + 1, 0, none⟩) := hsee 70 20 (by kernel_rfl) (by kernel_rfl)
      exact wp_of_runL (rLoad1 _ _ _ _ _ A' w 26 (.tmp 70) _ _ _ Tryz.underlying26 rfl (HR1c.out w hlow) q70) ⟨_, rfl, Below.refl _ _, rfl⟩
    · have q71 : A'.eval (.tmp 71) = .slice (some ⟨S, 0, none⟩) 1 1 := hsee 71 21 (by kernel_rfl) (by kernel_rfl)
      exact wp_of_runL (rIndex _ _ _ _ _ A' w 26 50 14 (.tmp 71) (.const (.int .i64 0)) S 0 1 1 0 0 Tryz.underlying26 (by kernel_rfl) (by omega) (by omega) q71 rfl) ⟨_, rfl, Below.refl _ _, rfl⟩
    · have q72 : A'.eval (.tmp 72) = .pointer (some ⟨S, 0, none⟩) := hsee 72 22 (by kernel_rfl) (by kernel_rfl)
      exact wp_of_runL (rLoad _ _ _ _ _ A' w 50 (.tmp 72) S 0 (evC e1) _ (HE1.out w hlow) Tryz.underlying50 rfl (by kernel_rfl) q72) ⟨_, rfl, Below.refl _ _, rfl⟩
    · have q69 : A'.eval (.tmp 69) = .agg (evC e1).toArray := hsee 69 19 (by kernel_rfl) (by kernel_rfl)
      have q73 : A'.eval (.tmp 73) = .agg (evC e1).toArray := hsee 73 23 (by kernel_rfl) (by kernel_rfl)
      exact wp_of_runL (run_eqlEvG _ _ _ _ _ A' w (.tmp 69) (.tmp 73) e1 sz1 q69 q73) ⟨_, rfl, Below.refl _ _, rfl⟩
    · have q66 : A'.eval (.tmp 66) = .bool true := hsee 66 16 (by kernel_rfl) (by kernel_rfl)
      have q74 : A'.eval (.tmp 74) = .bool true := hsee 74 24 (by kernel_rfl) (by kernel_rfl)
      exact wp_of_runL (rPick _ _ _ _ _ A' w (.tmp 66) (.tmp 74) (.const (Value.bool false)) _ _ q66 (by rw [if_pos rfl]; exact q74)) ⟨_, rfl, Below.refl _ _, rfl⟩
    · have q75 : A'.eval (.tmp 75) = .bool true := hsee 75 25 (by kernel_rfl) (by kernel_rfl)
      exact wp_of_runL (rMove _ _ _ _ _ A' w (.tmp 75) _ q75) ⟨_, rfl, Below.refl _ _, rfl⟩
    · exact wp_of_runL (rMove _ _ _ _ _ A' w (.tmp 7) _ q7) ⟨_, rfl, Below.refl _ _, rfl⟩
    · have q77 : A'.eval (.tmp 77) = .slice (some ⟨pb, 0, none⟩) 2 pc := hsee 77 27 (by kernel_rfl) (by kernel_rfl)
      exact wp_of_runL (rIndex _ _ _ _ _ A' w 26 50 14 (.tmp 77) (.const (.int .i64 1)) pb 0 2 pc 1 1 Tryz.underlying26 (by kernel_rfl) (by omega) (by omega) q77 rfl) ⟨_, rfl, Below.refl _ _, rfl⟩
    · have q78 : A'.eval (.tmp 78) = .pointer (some ⟨pb, 14, none⟩) := hsee 78 28 (by kernel_rfl) (by kernel_rfl)
      exact wp_of_runL (rLoad _ _ _ _ _ A' w 50 (.tmp 78) pb 14 (evC e3) _ (HP3.out w hlow) Tryz.underlying50 rfl (by kernel_rfl) q78) ⟨_, rfl, Below.refl _ _, rfl⟩
    · exact wp_of_runL (rField _ _ _ _ _ A' w 31 (.tmp 2) 0 (S + 1 + 1 + 1) 0 0 _ _ Tryz.underlying31 rfl (by kernel_rfl) rfl (by kernel_rfl) q2) ⟨_, rfl, Below.refl _ _, rfl⟩
    · have q80 : A'.eval (.tmp 80) = .pointer (some ⟨S + 1 + 1 + 1, 0, none⟩) := hsee 80 30 (by kernel_rfl) (by kernel_rfl)
      exact wp_of_runL (rLoad1 _ _ _ _ _ A' w 26 (.tmp 80) _ _ _ Tryz.underlying26 rfl (HR2c.out w hlow) q80) ⟨_, rfl, Below.refl _ _, rfl⟩
    · have q81 : A'.eval (.tmp 81) = .slice (some ⟨S + 1 + 1, 0, none⟩) 2 2 := hsee 81 31 (by kernel_rfl) (by kernel_rfl)
      exact wp_of_runL (rIndex _ _ _ _ _ A' w 26 50 14 (.tmp 81) (.const (.int .i64 1)) (S + 1 + 1) 0 2 2 1 1 Tryz.underlying26 (by kernel_rfl) (by omega) (by omega) q81 rfl) ⟨_, rfl, Below.refl _ _, rfl⟩
    · have q82 : A'.eval (.tmp 82) = .pointer (some ⟨S + 1 + 1, 14, none⟩) := hsee 82 32 (by kernel_rfl) (by kernel_rfl)
      exact wp_of_runL (rLoad _ _ _ _ _ A' w 50 (.tmp 82) (S + 1 + 1) 14 (evC e3) _ (HE3.out w hlow) Tryz.underlying50 rfl (by kernel_rfl) q82) ⟨_, rfl, Below.refl _ _, rfl⟩
    · have q79 : A'.eval (.tmp 79) = .agg (evC e3).toArray := hsee 79 29 (by kernel_rfl) (by kernel_rfl)
      have q83 : A'.eval (.tmp 83) = .agg (evC e3).toArray := hsee 83 33 (by kernel_rfl) (by kernel_rfl)
      exact wp_of_runL (run_eqlEvG _ _ _ _ _ A' w (.tmp 79) (.tmp 83) e3 sz3 q79 q83) ⟨_, rfl, Below.refl _ _, rfl⟩
    · have q76 : A'.eval (.tmp 76) = .bool true := hsee 76 26 (by kernel_rfl) (by kernel_rfl)
      have q84 : A'.eval (.tmp 84) = .bool true := hsee 84 34 (by kernel_rfl) (by kernel_rfl)
      exact wp_of_runL (rPick _ _ _ _ _ A' w (.tmp 76) (.tmp 84) (.const (Value.bool false)) _ _ q76 (by rw [if_pos rfl]; exact q84)) ⟨_, rfl, Below.refl _ _, rfl⟩
    · have q85 : A'.eval (.tmp 85) = .bool true := hsee 85 35 (by kernel_rfl) (by kernel_rfl)
      exact wp_of_runL (rAssign _ _ _ _ _ A' w (.tmp 85) _ q85) ⟨_, rfl, Below.refl _ _, rfl⟩
  intro e w5 hlow hall
  obtain ⟨v0, e0, -⟩ := hall 0 (by decide)
  obtain ⟨v1, e1, -⟩ := hall 1 (by decide)
  obtain ⟨v2, e2, -⟩ := hall 2 (by decide)
  obtain ⟨v3, e3, -⟩ := hall 3 (by decide)
  obtain ⟨v4, e4, -⟩ := hall 4 (by decide)
  obtain ⟨v5, e5, -⟩ := hall 5 (by decide)
  obtain ⟨v6, e6, -⟩ := hall 6 (by decide)
  obtain ⟨v7, e7, -⟩ := hall 7 (by decide)
  obtain ⟨v8, e8, -⟩ := hall 8 (by decide)
  obtain ⟨v9, e9, -⟩ := hall 9 (by decide)
  obtain ⟨v10, e10, -⟩ := hall 10 (by decide)
  obtain ⟨v11, e11, -⟩ := hall 11 (by decide)
  obtain ⟨v12, e12, -⟩ := hall 12 (by decide)
  obtain ⟨v13, e13, -⟩ := hall 13 (by decide)
  obtain ⟨v14, e14, -⟩ := hall 14 (by decide)
  obtain ⟨v15, e15, -⟩ := hall 15 (by decide)
  obtain ⟨v16, e16, -⟩ := hall 16 (by decide)
  obtain ⟨v17, e17, -⟩ := hall 17 (by decide)
  obtain ⟨v18, e18, -⟩ := hall 18 (by decide)
  obtain ⟨v19, e19, -⟩ := hall 19 (by decide)
  obtain ⟨v20, e20, -⟩ := hall 20 (by decide)
  obtain ⟨v21, e21, -⟩ := hall 21 (by decide)
  obtain ⟨v22, e22, -⟩ := hall 22 (by decide)
  obtain ⟨v23, e23, -⟩ := hall 23 (by decide)
  obtain ⟨v24, e24, -⟩ := hall 24 (by decide)
  obtain ⟨v25, e25, -⟩ := hall 25 (by decide)
  obtain ⟨v26, e26, -⟩ := hall 26 (by decide)
  obtain ⟨v27, e27, -⟩ := hall 27 (by decide)
  obtain ⟨v28, e28, -⟩ := hall 28 (by decide)
  obtain ⟨v29, e29, -⟩ := hall 29 (by decide)
  obtain ⟨v30, e30, -⟩ := hall 30 (by decide)
  obtain ⟨v31, e31, -⟩ := hall 31 (by decide)
  obtain ⟨v32, e32, -⟩ := hall 32 (by decide)
  obtain ⟨v33, e33, -⟩ := hall 33 (by decide)
  obtain ⟨v34, e34, -⟩ := hall 34 (by decide)
  obtain ⟨v35, e35, -⟩ := hall 35 (by decide)
  obtain ⟨v36, e36, h36⟩ := hall 36 (by decide)
  have h36' : v36 = .bool true := h36
  subst h36'
  clear h36
  have HLow := Lib.hid hlow
  simp only [List.length_cons, List.length_nil, Nat.reduceAdd, fillTo, e0, e1, e2, e3, e4, e5, e6, e7, e8, e9, e10, e11, e12, e13, e14, e15, e16, e17, e18, e19, e20, e21, e22, e23, e24, e25, e26, e27, e28, e29, e30, e31, e32, e33, e34, e35, e36, dstOf]
  clear e0 e1 e2 e3 e4 e5 e6 e7 e8 e9 e10 e11 e12 e13 e14 e15 e16 e17 e18 e19 e20 e21 e22 e23 e24 e25 e26 e27 e28 e29 e30 e31 e32 e33 e34 e35 e36 hlow hall
  go_simp
  have HB9 := Lib.hid (below_step HB5.out HLow.out)
  go_wp2_with fail
  go_ret
  exact ⟨rfl, HB9.out⟩
end Go.Proofs.YtfkejnnbfneieaaGreatDoor
