/- Concessions and substitutions, as values. -/
import Derived.Test.YtapjnbofhdljfaaCatIs
namespace Go.Proofs.Ytapjnbofhdljfaa
open Cat

namespace Con
def empty : ByteArray := ⟨#[]⟩
def find (s : List Prt) (n : ByteArray) : Option Prt := s.find? fun p => decide (p.name = n)
def noPart : Prt := ⟨empty, empty, empty, empty, 0, 0, false, [], 0, 0, 0, 0, 0, 0⟩
def got (s : List Prt) (n : ByteArray) : Prt := (find s n).getD noPart
def taken (c : List Knd) (kind slot : ByteArray) : List ByteArray × Int :=
  match c.find? fun k => decide (k.name = kind) with
  | none => ([], 0)
  | some k => match k.slots.find? fun s => decide (s.name = slot) with
    | none => ([], 0)
    | some s => (s.kinds, s.normal)
def fit (n : Int) (len : Nat) : Nat := (max 0 (min n len)).toNat
def has (l : List ByteArray) (x : ByteArray) : Bool := l.any fun s => decide (s = x)
def normal (c : List Knd) (kind slot other : ByteArray) : Bool := has ((taken c kind slot).1.take (fit (taken c kind slot).2 (taken c kind slot).1.length)) other
def twin (host : ByteArray) (x : Sb) (q : Prt) : Bool := decide (q.into = host) && (decide (q.slot = x.twin) && decide (q.kind = x.other))
def permits (s : List Prt) (host p : Prt) (day : Int) (x : Sb) : Bool :=
  decide (x.kind = host.kind) && (decide (x.slot = p.slot) && (decide (x.other = p.kind) && (decide (day ≤ x.to) && (decide (x.twin = empty) || s.any (twin host.name x)))))
def permitted (c : List Knd) (subs : List Sb) (s : List Prt) (part : ByteArray) (day : Int) : Bool :=
  match find s part with
  | none => false
  | some p => if p.into = empty then true else match find s p.into with
    | none => false
    | some host => normal c host.kind p.slot p.kind || subs.any (permits s host p day)
def exc (part rule : ByteArray) (day : Int) (c : Cn) : Bool := decide (c.part = part) && (decide (c.rule = rule) && decide (day ≤ c.to))
def exempt (l : List Cn) (part rule : ByteArray) (day : Int) : Bool := l.any (exc part rule day)
theorem has_iff {l : List ByteArray} {x : ByteArray} : has l x = true ↔ x ∈ l := by
  unfold has
  rw [List.any_eq_true]
  exact ⟨fun ⟨y, h1, h2⟩ => by rw [← of_decide_eq_true h2]; exact h1, fun h => ⟨x, h, decide_eq_true rfl⟩⟩
theorem eq_list {s t : ByteArray} : (s.toList == t.toList) = decide (s = t) := by
  by_cases h : s = t
  · rw [h]; simp
  · rw [decide_eq_false h]
    exact beq_eq_false_iff_ne.2 (by rw [ByteArray.toList_eq, ByteArray.toList_eq]; exact fun e => h (by apply ByteArray.ext; apply Array.ext'; exact e))
theorem eq_empty {s : ByteArray} : s.toList.isEmpty = decide (s = empty) := by
  have h := @eq_list s empty
  rw [← h]
  have e : empty.toList = [] := by rw [ByteArray.toList_eq]; rfl
  rw [e]
  cases s.toList <;> rfl
theorem find_here {s : List Prt} {n : ByteArray} {k : Nat} (hk : k < s.length) (h : (s.take k).any (fun p => decide (p.name = n)) = false) (hn : s[k].name = n) : find s n = some s[k] := by
  unfold find
  rw [List.find?_eq_some_iff_getElem]
  refine ⟨decide_eq_true hn, k, hk, rfl, fun j hj => ?_⟩
  have := List.any_eq_false.1 h s[j] (by rw [List.mem_take_iff_getElem]; exact ⟨j, by omega, rfl⟩)
  simpa using this
theorem find_not {s : List Prt} {n : ByteArray} (h : s.any (fun p => decide (p.name = n)) = false) : find s n = none := by
  unfold find
  rw [List.find?_eq_none]
  exact fun x hx => List.any_eq_false.1 h x hx
theorem some_next {α : Type} {l : List α} {q : α → Bool} {k : Nat} (hk : k < l.length) (h : (l.take k).any q = false) (hq : q l[k] = false) : (l.take (k + 1)).any q = false := by
  rw [← List.take_append_getElem hk, List.any_append, h, List.any_cons, hq]; rfl
theorem some_here {α : Type} {l : List α} {q : α → Bool} {k : Nat} (hk : k < l.length) (hq : q l[k] = true) : l.any q = true := List.any_eq_true.2 ⟨_, List.getElem_mem hk, hq⟩
theorem some_end {α : Type} {l : List α} {q : α → Bool} (h : (l.take l.length).any q = false) : l.any q = false := by rwa [List.take_length] at h
end Con
end Go.Proofs.Ytapjnbofhdljfaa
