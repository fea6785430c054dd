/- What two parts in two slots of one host are permitted: the values. -/
import Derived.Test.YtapjnbofhdljfaaConNorm
namespace Go.Proofs.Ytapjnbofhdljfaa
open Cat

theorem pair_of {α : Type} {R : α → α → Prop} (hs : ∀ x y, R x y → R y x) {l : List α} (h : l.Pairwise R) {x y : α} (hx : x ∈ l) (hy : y ∈ l) (hne : x ≠ y) : R x y := by
  obtain ⟨i, hi, rfl⟩ := List.getElem_of_mem hx
  obtain ⟨j, hj, rfl⟩ := List.getElem_of_mem hy
  rcases Nat.lt_trichotomy i j with h1 | h1 | h1
  · exact List.pairwise_iff_getElem.1 h i j hi hj h1
  · subst h1; exact absurd rfl hne
  · exact hs _ _ (List.pairwise_iff_getElem.1 h j i hj hi h1)
theorem slot_named {c : List Knd} (h : GoodCat c) {kind slot other : ByteArray} (ht : Con.has (Con.taken c kind slot).1 other = true) : slot ≠ Con.empty := by
  unfold Con.taken at ht
  cases h1 : c.find? (fun k => decide (k.name = kind)) with
  | none => rw [h1] at ht; simp [Con.has] at ht
  | some k =>
    rw [h1] at ht
    dsimp only at ht
    cases h2 : k.slots.find? (fun s => decide (s.name = slot)) with
    | none => rw [h2] at ht; simp [Con.has] at ht
    | some x =>
      have := h k (List.mem_of_find?_eq_some h1) x (List.mem_of_find?_eq_some h2)
      have e := List.find?_some h2
      rw [of_decide_eq_true e] at this
      exact this
def pairSubs (q a b : Prt) (to : Int) : List Sb := [⟨q.kind, a.slot, a.kind, b.slot, to⟩, ⟨q.kind, b.slot, a.kind, a.slot, to⟩]
/-- A part of this name is taken out. -/
def clr (nm : ByteArray) (p : Prt) : Prt := if p.name = nm then { p with into := Con.empty, slot := Con.empty } else p
theorem clr_name (nm : ByteArray) (p : Prt) : (clr nm p).name = p.name := by unfold clr; split <;> rfl
theorem clr_kind (nm : ByteArray) (p : Prt) : (clr nm p).kind = p.kind := by unfold clr; split <;> rfl
theorem find_clr (nm n : ByteArray) (s : List Prt) : Con.find (s.map (clr nm)) n = (Con.find s n).map (clr nm) := by
  unfold Con.find
  rw [List.find?_map]
  congr 1
  congr 1
  funext p
  simp [clr_name]
structure Pair (c : List Knd) (s : List Prt) (q a b : Prt) : Prop where
  good : GoodState c s
  ma : a ∈ s
  mb : b ∈ s
  host : Con.find s a.into = some q
  into : a.into = b.into
  kind : a.kind = b.kind
  slot : a.slot ≠ b.slot
  na : Con.normal c q.kind a.slot a.kind = false
  nb : Con.normal c q.kind b.slot b.kind = false
section
variable {c : List Knd} {s : List Prt} {q a b : Prt} {to day : Int} (h : Pair c s q a b)
include h
theorem Pair.mq : q ∈ s := List.mem_of_find?_eq_some h.host
theorem Pair.qn : q.name = a.into := by
  have := List.find?_some h.host
  exact of_decide_eq_true this
theorem Pair.ne : a.into ≠ Con.empty := by rw [← h.qn]; exact h.good.named q h.mq
theorem Pair.fa : Con.find s a.name = some a := find_of_mem h.good.rising h.ma
theorem Pair.fb : Con.find s b.name = some b := find_of_mem h.good.rising h.mb
theorem Pair.names : a.name ≠ b.name := fun e => by
  have h1 := h.fa
  rw [e, h.fb] at h1
  exact h.slot (by rw [Option.some.inj h1])
theorem Pair.sa : a.slot ≠ Con.empty := by
  obtain ⟨q', h1, _, _, h4⟩ := host_of h.good h.ma h.ne
  exact slot_named h.good.cat h4
theorem Pair.sb : b.slot ≠ Con.empty := by
  obtain ⟨q', h1, _, _, h4⟩ := host_of h.good h.mb (by rw [← h.into]; exact h.ne)
  exact slot_named h.good.cat h4
theorem Pair.permits_a : (pairSubs q a b to).any (Con.permits s q a day) = decide (day ≤ to) := by
  have h1 : s.any (Con.twin q.name ⟨q.kind, a.slot, a.kind, b.slot, to⟩) = true := List.any_eq_true.2 ⟨b, h.mb, by unfold Con.twin; simp [h.qn, h.into, h.kind]⟩
  unfold pairSubs
  simp [Con.permits, h1, h.slot.symm]
theorem Pair.permits_b : (pairSubs q a b to).any (Con.permits s q b day) = decide (day ≤ to) := by
  have h1 : s.any (Con.twin q.name ⟨q.kind, b.slot, a.kind, a.slot, to⟩) = true := List.any_eq_true.2 ⟨a, h.ma, by unfold Con.twin; simp [h.qn]⟩
  unfold pairSubs
  simp [Con.permits, h1, h.slot, h.kind]
  intro _
  exact Or.inr (by rw [← h.kind]; exact List.any_eq_true.1 h1)
theorem Pair.one : Con.permitted c (pairSubs q a b to) s a.name day = decide (day ≤ to) := by
  rw [permitted_in h.fa h.ne h.host, h.na, h.permits_a]; rfl
theorem Pair.two : Con.permitted c (pairSubs q a b to) s b.name day = decide (day ≤ to) := by
  rw [permitted_in h.fb (by rw [← h.into]; exact h.ne) (by rw [← h.into]; exact h.host), h.nb, h.permits_b]; rfl
theorem Pair.three : Con.permitted c (pairSubs q a b to) (s.map (clr b.name)) a.name day = false := by
  have hca : clr b.name a = a := by unfold clr; rw [if_neg h.names]
  have h1 : Con.find (s.map (clr b.name)) a.name = some a := by rw [find_clr, h.fa]; simp [hca]
  have h2 : Con.find (s.map (clr b.name)) a.into = some (clr b.name q) := by rw [find_clr, h.host]; rfl
  rw [permitted_in h1 h.ne h2, clr_kind, h.na]
  have h3 : (s.map (clr b.name)).any (Con.twin q.name ⟨q.kind, a.slot, a.kind, b.slot, to⟩) = false := by
    rw [List.any_eq_false]
    intro x hx ht
    obtain ⟨y, hy, rfl⟩ := List.mem_map.1 hx
    unfold Con.twin at ht
    simp only [Bool.and_eq_true, decide_eq_true_eq] at ht
    by_cases e : y.name = b.name
    · have : (clr b.name y).into = Con.empty := by unfold clr; rw [if_pos e]
      rw [this, h.qn] at ht
      exact h.ne ht.1.symm
    · have hc : clr b.name y = y := by unfold clr; rw [if_neg e]
      rw [hc, h.qn] at ht
      have hf : FitPrt y := fun hh => h.ne (by rw [← ht.1]; exact hh.1)
      have hfb : FitPrt b := fun hh => h.ne (by rw [h.into]; exact hh.1)
      exact pair_of (R := AptPrt) (fun x y k h1 h2 h3 => k h2 h1 ⟨h3.1.symm, h3.2.symm⟩) h.good.placed.apart hy h.mb (fun hh => e (by rw [hh])) hf hfb ⟨by rw [← h.into]; exact ht.1, ht.2.1⟩
  unfold pairSubs
  simp [Con.permits, clr_kind, clr_name, h.slot.symm, h.sb, h3]
theorem Pair.four : Con.permitted c (pairSubs q a b to) (s.map (clr b.name)) b.name day = true := by
  have h1 : Con.find (s.map (clr b.name)) b.name = some (clr b.name b) := by rw [find_clr, h.fb]; rfl
  have h2 : (clr b.name b).into = Con.empty := by unfold clr; rw [if_pos rfl]
  unfold Con.permitted
  rw [h1]
  dsimp only
  rw [if_pos h2]
end
end Go.Proofs.Ytapjnbofhdljfaa
