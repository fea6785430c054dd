/- collected: what holds between two indices, and what each step of the closure leaves. -/
import Derived.Test.YtolnpimnoajcaaaLnkGrp
import Derived.Test.YtolnpimnoajcaaaLnkMapI
import Derived.Test.YtolnpimnoajcaaaEntFacts
import Derived.Test.YtolnpimnoajcaaaGrownTail
import Derived.Test.YtolnpimnoajcaaaAppApart
import Derived.Maps.AppendAt
namespace Go.Proofs.Ytolnpimnoajcaaa
open Go.RowKit Go.Maps Go.WideMaps
open Lnk

theorem wp_region_class_tail {P : Program} {id : Nat} {Q : Exit → Act → World → Prop} {a : Act} {w : World} {l : List Oper} (C : World → Prop) (n : Nat) (hm : P.follows .mixedOrders = true) (hB : Region.lexTailB .any l.toArray n = true) (hC : C w.drew)
    (h : wpQuiet P l.toArray C (fun a' => ∀ w', C w' → wpList P l.toArray Q (l.drop n) a' w') (l.take n) a) : (Code.region id l.toArray true).wp P Q a w := by
  simp only [Region.lexTailB, Bool.and_eq_true, decide_eq_true_eq] at hB
  obtain ⟨⟨⟨⟨hsel, hn⟩, hs⟩, hc⟩, hlex⟩ := hB
  have htl : (l.take n).length = n := by simp at hn ⊢; omega
  have hdl : (l.drop n).length = l.toArray.size - n := by simp
  have inv0 : HeadInv .any l.toArray n (Array.replicate l.toArray.size false) :=
    ⟨by simp, fun j oj _ hl => (by rw [getD_replicate_false] at hl; cases hl), fun t _ ht => getD_in (by simpa using ht) (getD_replicate_false _ _)⟩
  have H := headQ_lex (md := .any) (g := l.toArray.size - n) hsel hs hc hn (l.take n) 0 _ a (fun j hj => by
    have hj' : j < n := by rw [htl] at hj; exact hj
    simp [hj']) (by simpa using htl) inv0 (by rw [htl]; exact hlex) h
  refine wp_region_any hm ?_
  have h2 := any_of_headQ (Q' := Q) (g := l.toArray.size - n) (fun listed a' hL w' hw' => by
    have h3 := wpAny_of_seq (md := .any) (Q' := Q) (l.drop n) n listed a' w' (fun j => by simp [List.getElem?_drop]) (by rw [hdl]; exact hL.1) (hL.2 w' hw')
    rwa [hdl] at h3) _ _ _ H { w with drawn := w.drawn + 1 } hC
  rw [htl, show n + (l.toArray.size - n) = l.toArray.size by omega] at h2
  exact h2

theorem wp_region_class {P : Program} {id : Nat} {Q : Exit → Act → World → Prop} {a : Act} {w : World} {l : List Oper} (C : World → Prop) (hm : P.follows .mixedOrders = true) (hB : Region.lexB .any l.toArray = true) (hC : C w.drew)
    (h : wpQuiet P l.toArray C (fun a' => ∀ w', C w' → Q .normal a' w') l a) : (Code.region id l.toArray true).wp P Q a w :=
  wp_region_quiet (C := C) hm hB hC (by simpa using h)
theorem info_intJ : (Try.prog.info? 3).map (fun i => (i.zero, i.size, i.bytes)) = some (some (.int .i64 0), 1, 8) := by kernel_rfl
theorem info_rowL : (Try.prog.info? 29).map (fun i => (i.zero, i.size, i.bytes)) = some (some (.slice none 0 0), 1, 24) := by kernel_rfl
/-- The worlds that differ from W in block pb, which holds parents with the same roots. -/
def RootW (W : World) (pb n : Nat) (r d : Nat → Nat) : Type := { x : World // W.grownBy x (some pb) ∧ ∃ p, UF n p r d ∧ IsP x pb n p }
def RootW.w {W : World} {pb n : Nat} {r d : Nat → Nat} (x : RootW W pb n r d) : World := x.1

theorem owns_put {w : World} {B : Nat} {e : TypeId} {g n cap t : Nat} {xs : List Value} (h : w.ownsRow B e 1 (.slice (some ⟨g, 0, none⟩) n cap) n xs) (u : Value) : (w.setCell ⟨g, t, none⟩ u).ownsRow B e 1 (.slice (some ⟨g, 0, none⟩) n cap) n (xs.set t u) := by
  rcases h.2 with ⟨h1, _⟩ | ⟨g', cap', cur, e1, hb, hw, hle, hm, hcs, htk⟩
  · cases h1
  · injection e1 with e1 _ e2
    injection e1 with e1
    injection e1 with e1
    subst e1; subst e2
    refine ⟨by rw [List.length_set]; exact h.1, Or.inr ⟨g, cap, cur.setIfInBounds t u, rfl, hb, Whole.set hw t u, hle, hm, by simp [hcs], ?_⟩⟩
    rw [← htk, Array.toList_setIfInBounds, List.take_set]
theorem owns_whole_put {w : World} {B : Nat} {e : TypeId} {v : Value} {n : Nat} {xs : List Value} (h : w.ownsRow B e 1 v n xs) {t : Nat} (ht : t < n) : ∃ g cap, v = .slice (some ⟨g, 0, none⟩) n cap ∧ B ≤ g ∧ (∃ cur, Whole w g e cur) ∧ ∀ (j : Nat) (u : Value), xs[j]? = some u → w.cell? ⟨g, j, none⟩ = some u := by
  rcases h.2 with ⟨_, h1⟩ | ⟨g, cap, cur, rfl, hb, hw, hle, hm, hcs, htk⟩
  · omega
  · refine ⟨g, cap, rfl, hb, ⟨cur, hw⟩, fun j u hu => ?_⟩
    rw [Whole.cell hw, ← Array.getElem?_toList]
    rw [← htk] at hu
    have hj : j < n * 1 := by have := (List.getElem?_eq_some_iff.1 hu).1; simp at this; omega
    rwa [List.getElem?_take_of_lt hj] at hu

structure LOrd (V0 : World) (B pb mb b3 b5 b6 : Nat) : Prop where
  hp : pb < V0.heap.size
  h3 : V0.heap.size ≤ b3 ∧ b3 < B
  h5 : V0.heap.size ≤ b5 ∧ b5 < B
  h6 : V0.heap.size ≤ b6 ∧ b6 < B
  hm : V0.heap.size ≤ mb ∧ mb < B
  m3 : b3 ≠ mb
  m5 : b5 ≠ mb
  m6 : b6 ≠ mb
  n3 : b3 ≠ b5
  n6 : b6 ≠ b5
structure Adds (V0 : World) (B pb n cap mb b3 b5 b6 : Nat) (r d : Nat → Nat) (gs : List (List Nat)) (c : Nat) (f : Nat → Option Nat) (w : World) : Prop where
  low : V0.grownBy w (some pb)
  big : B ≤ w.heap.size
  par : ∃ p, UF n p r d ∧ IsP w pb n p
  root : Whole w b3 59 #[.func (.func 28) #[.slice (some ⟨pb, 0, none⟩) n cap] #[]]
  map : Whole w b6 68 #[.map (some mb)]
  tbl : JMap w mb c f
  sets : ∃ sv, Whole w b5 26 #[sv] ∧ Sets B w sv gs
section
variable {V0 w w' : World} {B pb n cap mb b3 b5 b6 : Nat} {r d : Nat → Nat} {gs : List (List Nat)} {c : Nat} {f : Nat → Option Nat}
theorem Sets.kept {v : Value} {b : Nat} (h : Sets B w v gs) (hb : b < B) (hg : w.grownBy w' (some b)) : Sets B w' v gs := by
  obtain ⟨vs, h1, h2, h3⟩ := h.ex
  have k : ∀ {e : TypeId} {u : Value} {m : Nat} {xs : List Value}, w.ownsRow B e 1 u m xs → w'.ownsRow B e 1 u m xs := fun hh => hh.kept hg (Or.inr fun e => by have := (hh.lt b e).1; omega)
  exact ⟨vs, k h1, fun j hj => by obtain ⟨u, h4, h5⟩ := h2 j hj; exact ⟨u, h4, k h5⟩, h3⟩
theorem grown_more {row : Option Nat} (h : V0.grownBy w (some pb)) (k : w.grownBy w' row) (hr : ∀ y, row = some y → V0.heap.size ≤ y ∨ y = pb) : V0.grownBy w' (some pb) :=
  ⟨k.os.trans h.os, k.tape.trans h.tape, k.output.trans h.output, Nat.le_trans h.size k.size, fun b hb hne => (k.block b (Nat.lt_of_lt_of_le hb h.size) (fun e => by
    rcases hr b e.symm with h1 | h1
    · omega
    · exact hne (by rw [h1]))).trans (h.block b hb hne)⟩
theorem Adds.moved (h : Adds V0 B pb n cap mb b3 b5 b6 r d gs c f w) (ho : LOrd V0 B pb mb b3 b5 b6) (hg : w.grownBy w' (some pb)) (hp : ∃ p, UF n p r d ∧ IsP w' pb n p) : Adds V0 B pb n cap mb b3 b5 b6 r d gs c f w' := by
  obtain ⟨sv, h5, hS⟩ := h.sets
  have hb := ho.hp; have h3 := ho.h3; have h5' := ho.h5; have h6 := ho.h6; have hm := ho.hm
  exact ⟨grown_more h.low hg (fun y e => Or.inr (by injection e with e; exact e.symm)), Nat.le_trans h.big hg.size, hp, whole_grownM h.root hg (fun e => by injection e; omega), whole_grownM h.map hg (fun e => by injection e; omega), h.tbl.kept hg (fun e => by injection e; omega),
    sv, whole_grownM h5 hg (fun e => by injection e; omega), hS.kept (by omega) hg⟩
theorem Adds.put (h : Adds V0 B pb n cap mb b3 b5 b6 r d gs c f w) (ho : LOrd V0 B pb mb b3 b5 b6) {c' : Nat} {f' : Nat → Option Nat} (hg : w.grownBy w' (some mb)) (ht : JMap w' mb c' f') : Adds V0 B pb n cap mb b3 b5 b6 r d gs c' f' w' := by
  obtain ⟨sv, h5, hS⟩ := h.sets
  obtain ⟨p, hu, hp⟩ := h.par
  have hb := ho.hp; have hm := ho.hm
  exact ⟨grown_more h.low hg (fun y e => Or.inl (by injection e; omega)), Nat.le_trans h.big hg.size, ⟨p, hu, hp.kept hg (fun e => by injection e; omega)⟩, whole_grownM h.root hg (fun e => by injection e with e; exact ho.m3 e.symm), whole_grownM h.map hg (fun e => by injection e with e; exact ho.m6 e.symm), ht,
    sv, whole_grownM h5 hg (fun e => by injection e with e; exact ho.m5 e.symm), hS.kept hm.2 hg⟩
/-- The sets are others, and so may block b5 be; of the old blocks no other one. -/
theorem Adds.resets (h : Adds V0 B pb n cap mb b3 b5 b6 r d gs c f w) (ho : LOrd V0 B pb mb b3 b5 b6) {gs' : List (List Nat)} (hon : Only (fun b => b = b5 ∨ B ≤ b) w w') (hs : ∃ sv, Whole w' b5 26 #[sv] ∧ Sets B w' sv gs') : Adds V0 B pb n cap mb b3 b5 b6 r d gs' c f w' := by
  obtain ⟨p, hu, hp⟩ := h.par
  have hb := ho.hp; have h3 := ho.h3; have h5' := ho.h5; have h6 := ho.h6; have hm := ho.hm; have n3 := ho.n3; have n6 := ho.n6; have m5 := ho.m5
  refine ⟨⟨hon.os.trans h.low.os, hon.tape.trans h.low.tape, hon.output.trans h.low.output, Nat.le_trans h.low.size hon.size, fun b hb2 hne => (hon.block b (Nat.lt_of_lt_of_le hb2 h.low.size) (fun hh => by omega)).trans (h.low.block b hb2 hne)⟩, Nat.le_trans h.big hon.size, ⟨p, hu, hon.whole hp (fun hh => by omega)⟩, hon.whole h.root (fun hh => by omega), hon.whole h.map (fun hh => by omega), ?_, hs⟩
  obtain ⟨D, ⟨es, clock, hbk, F, hs2, hD⟩, h2⟩ := h.tbl
  exact ⟨D, ⟨es, clock, (hon.block mb (Nat.lt_of_lt_of_le hm.2 h.big) (fun hh => by omega)).trans hbk, F, hs2, hD⟩, h2⟩
end
theorem owns_cell_at {w : World} {B : Nat} {e : TypeId} {g n cap t : Nat} {xs : List Value} {u : Value} (h : w.ownsRow B e 1 (.slice (some ⟨g, 0, none⟩) n cap) n xs) (hu : xs[t]? = some u) : w.cell? ⟨g, t, none⟩ = some u ∧ w.frozen? ⟨g, t, none⟩ = false := by
  have ht : t < n := by have := (List.getElem?_eq_some_iff.1 hu).1; have := h.1; omega
  obtain ⟨g', cap', e1, _, ⟨cur, hw⟩, hc⟩ := owns_whole_put h ht
  injection e1 with e1 _ _
  injection e1 with e1
  injection e1 with e1
  subst e1
  exact ⟨hc t u hu, hw.frozen t⟩
theorem owns_apartJ {W : World} {b b' : Nat} {e e' : TypeId} {size size' k k' : Nat} {v v' : Value} {xs xs' : List Value} (h : W.ownsRow b e size v k xs) (h' : W.ownsRow b' e' size' v' k' xs') (hne : e ≠ e') : Apart v v' := fun g hg hg' => by
  rcases h.2 with ⟨rfl, _⟩ | ⟨g1, cap, cur, rfl, _, hh, _⟩
  · simp [Value.ownBlock] at hg
  · have e1 : g1 = g := by simpa [Value.ownBlock] using hg
    subst e1
    exact owns_wholeM h' (show Whole W g1 e cur from hh) (fun x => hne x.symm) hg'
theorem news_one (w : World) (t : TypeId) (x : Value) : ∀ j u, [x][j]? = some u → (w.alloc (.cells #[x] t)).cell? ((⟨w.heap.size, 0, none⟩ : Addr).add j) = some u := fun j u hu => by
  have e : (⟨w.heap.size, 0, none⟩ : Addr).add j = ⟨w.heap.size, j, none⟩ := by unfold Addr.add; split <;> simp_all
  rw [e, (Whole.new w t #[x]).cell]
  simpa using hu
end Go.Proofs.Ytolnpimnoajcaaa
