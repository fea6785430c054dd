/- What the walk of All has so far, and how each write keeps it. -/
import Derived.Test.YtfokbcakbbdlaaaHldMap
namespace Go.Proofs.Ytfokbcakbbdlaaa
open Go.RowKit
open Hld (Rc Hd)

theorem owns_whole {W : World} {base : Nat} {e t : TypeId} {size k : Nat} {v : Value} {xs : List Value} {g : Nat} {cs : Array Value} (h : W.ownsRow base e size v k xs) (hg : Whole W g t cs) (hne : e ≠ t) : v.ownBlock ≠ some g := by
  rcases h.2 with ⟨rfl, _⟩ | ⟨g', cap, cur, rfl, _, hh, _⟩
  · simp [Value.ownBlock]
  · intro he
    have e1 : g' = g := by simpa [Value.ownBlock] using he
    subst e1
    have h2 : Whole W g' e cur := hh
    exact h2.apart hg hne rfl
theorem owns_apart {W : World} {b b' : Nat} {e e' : TypeId} {size size' k k' : Nat} {v v' : Value} {xs xs' : List Value} (h : W.ownsRow b e size v k xs) (h' : W.ownsRow b' e' size' v' k' xs') (hne : e ≠ e') : Apart v v' := fun g hg hg' => by
  rcases h.2 with ⟨rfl, _⟩ | ⟨g1, cap, cur, rfl, _, hh, _⟩
  · simp [Value.ownBlock] at hg
  · have e1 : g1 = g := by simpa [Value.ownBlock] using hg
    subst e1
    exact owns_whole h' (show Whole W g1 e cur from hh) hne.symm hg'
theorem owns_apart_new {W : World} {b : Nat} {e : TypeId} {size k : Nat} {v v' : Value} {xs : List Value} (h : W.ownsRow b e size v k xs) (hv : ∀ g, v'.ownBlock = some g → W.heap.size ≤ g) : Apart v v' := fun g hg hg' => by
  have := (h.lt g hg).2
  have := hv g hg'
  omega
def strC (l : List ByteArray) : List Value := l.map Value.string
theorem strC_len (l : List ByteArray) : (strC l).length = l.length := by simp [strC]
theorem below_grownBy {w w' : World} (h : Below w.heap.size w w') (row : Option Nat) : w.grownBy w' row := ⟨h.os, h.tape, h.output, h.size, fun k hk _ => h.block k hk⟩
theorem owns_below {w w' : World} {b : Nat} {e : TypeId} {size k : Nat} {v : Value} {xs : List Value} (h : w.ownsRow b e size v k xs) (hb : Below w.heap.size w w') : w'.ownsRow b e size v k xs := h.kept (below_grownBy hb none) (Classical.em _)
theorem whole_below {w w' : World} {g : Nat} {t : TypeId} {cs : Array Value} (h : Whole w g t cs) (hb : Below w.heap.size w w') : Whole w' g t cs := (hb.block g h.lt).trans h
theorem whole_grown {w w' : World} {g : Nat} {t : TypeId} {cs : Array Value} {row : Option Nat} (h : Whole w g t cs) (hg : w.grownBy w' row) (hne : row ≠ some g) : Whole w' g t cs := (hg.block g h.lt (fun e => hne e.symm)).trans h
theorem owns_set {w : World} {b : Nat} {e t : TypeId} {size k : Nat} {v : Value} {xs : List Value} {g i : Nat} {cs : Array Value} (h : w.ownsRow b e size v k xs) (hg : Whole w g t cs) (hne : e ≠ t) (u : Value) : (w.setCell ⟨g, i, none⟩ u).ownsRow b e size v k xs :=
  h.kept (row := some g) ⟨rfl, rfl, rfl, by simp, fun j _ hj => Below.heap_setCell _ _ _ _ (fun e => hj (by rw [e]))⟩ (Or.inr (owns_whole h hg hne))

/-- A hold, its block, the lists of its members and of who gave it back. -/
structure Ho where
  hd : Hd
  g : Nat
  mv : Value
  bv : Value
structure HoAt (B : Nat) (w : World) (o : Ho) : Prop where
  cell : Whole w o.g 31 #[.string o.hd.id, .string o.hd.vehicle, o.mv, o.bv]
  mem : w.ownsRow B 3 1 o.mv o.hd.members.length (intsC o.hd.members)
  back : w.ownsRow B 3 1 o.bv o.hd.back.length (intsC o.hd.back)
  lo : B ≤ o.g
theorem HoAt.below {B : Nat} {w w' : World} {o : Ho} (h : HoAt B w o) (hb : Below w.heap.size w w') : HoAt B w' o := ⟨whole_below h.cell hb, owns_below h.mem hb, owns_below h.back hb, h.lo⟩
/-- Kept where one row of another hold, or of other elements, has been written. -/
theorem HoAt.grown {B : Nat} {w w' : World} {o : Ho} {row : Option Nat} (h : HoAt B w o) (hg : w.grownBy w' row) (h1 : row ≠ some o.g) (h2 : ∀ g, o.mv.ownBlock = some g → row ≠ some g) (h3 : ∀ g, o.bv.ownBlock = some g → row ≠ some g) : HoAt B w' o := by
  refine ⟨whole_grown h.cell hg h1, h.mem.kept hg ?_, h.back.kept hg ?_, h.lo⟩
  · cases e : o.mv.ownBlock with
    | none => exact Or.inl rfl
    | some g => exact Or.inr fun hh => h2 g e hh.symm
  · cases e : o.bv.ownBlock with
    | none => exact Or.inl rfl
    | some g => exact Or.inr fun hh => h3 g e hh.symm
theorem HoAt.set {B : Nat} {w : World} {o : Ho} (h : HoAt B w o) {g i : Nat} {t : TypeId} {cs : Array Value} (hg : Whole w g t cs) (h1 : o.g ≠ g) (h2 : (3 : TypeId) ≠ t) (u : Value) : HoAt B (w.setCell ⟨g, i, none⟩ u) o :=
  ⟨h.cell.far (p := ⟨g, i, none⟩) h1 u, owns_set h.mem hg h2 u, owns_set h.back hg h2 u, h.lo⟩

def rows (os : List Ho) : List Value := os.flatMap fun o => [o.mv, o.bv]
def findG (os : List Ho) (s : ByteArray) : Option Nat := (os.find? fun o => decide (o.hd.id = s)).map (·.g)
structure HInv (W : World) (N Nm No bm : Nat) (os : List Ho) (ov : Value) (ids : List ByteArray) (w : World) : Prop where
  low : Below W.heap.size W w
  res : Whole w N 26 #[.slice none 0 0]
  var : Whole w Nm 61 #[.map (some bm)]
  ord : Whole w No 22 #[ov]
  row : w.ownsRow W.heap.size 9 1 ov ids.length (strC ids)
  map : PMap w bm os.length (findG os)
  here : ∀ o ∈ os, HoAt W.heap.size w o
  apart : (rows os).Pairwise Apart
  gs : (os.map (·.g)).Nodup
  los : W.heap.size ≤ N ∧ W.heap.size ≤ Nm ∧ W.heap.size ≤ No ∧ W.heap.size ≤ bm
section
variable {W w w' : World} {N Nm No bm : Nat} {os : List Ho} {ov : Value} {ids : List ByteArray}
theorem HInv.below (h : HInv W N Nm No bm os ov ids w) (hb : Below w.heap.size w w') : HInv W N Nm No bm os ov ids w' :=
  ⟨below_step h.low hb, whole_below h.res hb, whole_below h.var hb, whole_below h.ord hb, owns_below h.row hb, h.map.kept (below_grownBy hb none) (by simp), fun o ho => (h.here o ho).below hb, h.apart, h.gs, h.los⟩
theorem HInv.drew (h : HInv W N Nm No bm os ov ids w) : HInv W N Nm No bm os ov ids w.drew := h.below (Below.refl _ _).drew
theorem mem_rows {o : Ho} (ho : o ∈ os) : o.mv ∈ rows os ∧ o.bv ∈ rows os := by
  unfold rows
  exact ⟨List.mem_flatMap.2 ⟨o, ho, by simp⟩, List.mem_flatMap.2 ⟨o, ho, by simp⟩⟩
/-- A hold more: its block, its members' list and the map's entry are laid; the order's list is not yet written. -/
theorem HInv.made (h : HInv W N Nm No bm os ov ids w) {w1 w2 : World} {o : Ho} (hb : Below w.heap.size w w1) (ho : HoAt W.heap.size w1 o) (hlen : w.heap.size ≤ o.g) (hm : ∀ g, o.mv.ownBlock = some g → w.heap.size ≤ g) (hbv : o.bv = .slice none 0 0)
    (hg : w1.grownBy w2 (some bm)) (hp : PMap w2 bm (os.length + 1) (fun t => if t = o.hd.id then some o.g else findG os t)) (hnew : findG os o.hd.id = none) : HInv W N Nm No bm (os ++ [o]) ov ids w2 := by
  have h1 := h.below hb
  have key : ∀ {g : Nat} {t : TypeId} {cs : Array Value}, Whole w1 g t cs → Whole w2 g t cs := fun hw => whole_grown hw hg (fun e => h1.map.ne hw (Option.some.inj e))
  have krow : ∀ {b : Nat} {e : TypeId} {size k : Nat} {v : Value} {xs : List Value}, w1.ownsRow b e size v k xs → w2.ownsRow b e size v k xs := fun hr => hr.kept hg (by
    cases e : Value.ownBlock _ with
    | none => exact Or.inl rfl
    | some g => exact Or.inr fun hh => h1.map.ne_row hr (by rw [e]; exact hh.symm))
  have kho : ∀ {o : Ho}, HoAt W.heap.size w1 o → HoAt W.heap.size w2 o := fun ho => ⟨key ho.cell, krow ho.mem, krow ho.back, ho.lo⟩
  refine ⟨?_, key h1.res, key h1.var, key h1.ord, krow h1.row, ?_, ?_, ?_, ?_, h1.los⟩
  · exact h1.low.grown hg h1.low.size (fun j e => by rw [← Option.some.inj e]; exact h.los.2.2.2)
  · rw [List.length_append]
    have e : findG (os ++ [o]) = fun t => if t = o.hd.id then some o.g else findG os t := by
      funext t
      unfold findG at hnew ⊢
      rw [List.find?_append]
      by_cases ht : t = o.hd.id
      · subst ht
        rw [if_pos rfl]
        have : os.find? (fun o' => decide (o'.hd.id = o.hd.id)) = none := by simpa using hnew
        rw [this]; simp
      · rw [if_neg ht]
        have e2 : [o].find? (fun o' => decide (o'.hd.id = t)) = none := by
          simp only [List.find?_cons, List.find?_nil]
          rw [decide_eq_false (fun e => ht e.symm)]
        rw [e2, Option.or_none]
    rw [e]
    exact hp
  · intro x hx
    rcases List.mem_append.1 hx with hx | hx
    · exact kho (h1.here x hx)
    · rw [List.mem_singleton.1 hx]; exact kho ho
  · have e : rows (os ++ [o]) = rows os ++ [o.mv, o.bv] := by unfold rows; rw [List.flatMap_append]; simp
    rw [e, List.pairwise_append]
    have hbn : ∀ v, Apart v o.bv := fun v g _ hg' => by rw [hbv] at hg'; simp [Value.ownBlock] at hg'
    refine ⟨h.apart, ?_, ?_⟩
    · rw [List.pairwise_pair]; exact hbn _
    · intro a ha b hb'
      simp only [List.mem_cons, List.not_mem_nil, or_false] at hb'
      rcases hb' with rfl | rfl
      · unfold rows at ha
        obtain ⟨x, hx, hax⟩ := List.mem_flatMap.1 ha
        simp only [List.mem_cons, List.not_mem_nil, or_false] at hax
        rcases hax with rfl | rfl
        · exact owns_apart_new (h.here x hx).mem hm
        · exact owns_apart_new (h.here x hx).back hm
      · exact hbn _
  · rw [List.map_append, List.nodup_append]
    refine ⟨h.gs, by simp, fun a ha b hb' => ?_⟩
    obtain ⟨x, hx, rfl⟩ := List.mem_map.1 ha
    simp only [List.map_cons, List.map_nil, List.mem_singleton] at hb'
    rw [hb']
    have := (h.here x hx).cell.lt
    omega
/-- The order's list has been written. -/
theorem HInv.ordered (h : HInv W N Nm No bm os ov ids w) {w1 : World} {ov' : Value} {id : ByteArray} (hg : w.grownBy w1 ov.ownBlock) (hrow : w1.ownsRow W.heap.size 9 1 ov' (ids.length + 1) (strC ids ++ [.string id])) :
    HInv W N Nm No bm os ov' (ids ++ [id]) (w1.setCell ⟨No, 0, none⟩ ov') := by
  have key : ∀ {g : Nat} {t : TypeId} {cs : Array Value}, Whole w g t cs → (9 : TypeId) ≠ t → Whole w1 g t cs := fun hw hne => whole_grown hw hg (owns_whole h.row hw hne)
  have ko := key h.ord (by decide)
  have kho : ∀ {o : Ho}, HoAt W.heap.size w o → HoAt W.heap.size (w1.setCell ⟨No, 0, none⟩ ov') o := fun {o} ho => by
    have h1 : HoAt W.heap.size w1 o := ho.grown hg (owns_whole h.row ho.cell (by decide)) (fun g hg' he => owns_apart h.row ho.mem (by decide) g he hg') (fun g hg' he => owns_apart h.row ho.back (by decide) g he hg')
    exact h1.set ko (h1.cell.apart ko (by decide)) (by decide) _
  refine ⟨?_, ?_, ?_, ?_, ?_, ?_, fun o ho => kho (h.here o ho), h.apart, h.gs, h.los⟩
  · exact (h.low.grown hg h.low.size (fun j e => (h.row.lt j e).1)).setCell (p := ⟨No, 0, none⟩) h.los.2.2.1 _
  · exact (key h.res (by decide)).far (p := ⟨No, 0, none⟩) (h.res.apart h.ord (by decide)) _
  · exact (key h.var (by decide)).far (p := ⟨No, 0, none⟩) (h.var.apart h.ord (by decide)) _
  · exact ko.set 0 _
  · rw [List.length_append]
    have e : strC (ids ++ [id]) = strC ids ++ [.string id] := by simp [strC]
    rw [e]
    exact owns_set hrow ko (by decide) _
  · exact (h.map.kept hg (h.map.ne_row h.row)).setCell (h.map.ne h.ord) _
/-- Somebody more has given a hold back. -/
theorem HInv.given (h : HInv W N Nm No bm os ov ids w) {w1 : World} {j : Nat} (hj : j < os.length) {bv' : Value} {a : Int} (hg : w.grownBy w1 os[j].bv.ownBlock) (hrow : w1.ownsRow W.heap.size 3 1 bv' (os[j].hd.back.length + 1) (intsC os[j].hd.back ++ [.int .i64 a]))
    (hloc : bv'.ownBlock = os[j].bv.ownBlock ∨ ∀ g, bv'.ownBlock = some g → w.heap.size ≤ g) :
    HInv W N Nm No bm (os.set j ⟨{ os[j].hd with back := os[j].hd.back ++ [a] }, os[j].g, os[j].mv, bv'⟩) ov ids (w1.setCell ⟨os[j].g, 3, none⟩ bv') := by
  have hoj := h.here _ (List.getElem_mem hj)
  have key : ∀ {g : Nat} {t : TypeId} {cs : Array Value}, Whole w g t cs → (3 : TypeId) ≠ t → Whole w1 g t cs := fun hw hne => whole_grown hw hg (owns_whole hoj.back hw hne)
  have kc := key hoj.cell (by decide)
  have pw : ∀ (i k : Nat) (hi : i < (rows os).length) (hk : k < (rows os).length), i ≠ k → Apart (rows os)[i] (rows os)[k] := fun i k hi hk hne => by
    rcases Nat.lt_or_ge i k with h1 | h1
    · exact List.pairwise_iff_getElem.1 h.apart i k hi hk h1
    · exact (List.pairwise_iff_getElem.1 h.apart k i hk hi (by omega)).symm
  have rl : ∀ l : List Ho, (rows l).length = 2 * l.length := fun l => by
    induction l with
    | nil => rfl
    | cons x l ih => show ([x.mv, x.bv] ++ rows l).length = _; rw [List.length_append, ih]; simp; omega
  have rg : ∀ (l : List Ho) (i : Nat) (hi : i < l.length), (rows l)[2 * i]? = some l[i].mv ∧ (rows l)[2 * i + 1]? = some l[i].bv := fun l => by
    induction l with
    | nil => intro i hi; simp at hi
    | cons x l ih =>
      intro i hi
      cases i with
      | zero => exact ⟨rfl, rfl⟩
      | succ i =>
        have := ih i (by simpa using hi)
        have e1 : 2 * (i + 1) = (2 * i) + 1 + 1 := by omega
        rw [e1]
        exact this
  have ap : ∀ (u : Value) (k : Nat) (hk : k < (rows os).length), (rows os)[k] = u → k ≠ 2 * j + 1 → Apart os[j].bv u := fun u k hk hu hne => by
    have h1 := pw (2 * j + 1) k (by rw [rl]; omega) hk (fun e => hne e.symm)
    have h2 := (rg os j hj).2
    rw [List.getElem?_eq_getElem (by rw [rl]; omega)] at h2
    rw [Option.some.inj h2, hu] at h1
    exact h1
  have apm : ∀ (i : Nat) (hi : i < os.length), Apart os[j].bv os[i].mv := fun i hi => by
    have h2 := (rg os i hi).1
    rw [List.getElem?_eq_getElem (by rw [rl]; omega)] at h2
    exact ap _ (2 * i) (by rw [rl]; omega) (Option.some.inj h2) (by omega)
  have apb : ∀ (i : Nat) (hi : i < os.length), i ≠ j → Apart os[j].bv os[i].bv := fun i hi hne => by
    have h2 := (rg os i hi).2
    rw [List.getElem?_eq_getElem (by rw [rl]; omega)] at h2
    exact ap _ (2 * i + 1) (by rw [rl]; omega) (Option.some.inj h2) (by omega)
  have gne : ∀ (i : Nat) (hi : i < os.length), i ≠ j → os[i].g ≠ os[j].g := fun i hi hne e => by
    have := List.pairwise_iff_getElem.1 h.gs
    rcases Nat.lt_or_ge i j with h1 | h1
    · exact this i j (by simpa using hi) (by simpa using hj) h1 (by simpa using e)
    · exact this j i (by simpa using hj) (by simpa using hi) (by omega) (by simpa using e.symm)
  have hself : HoAt W.heap.size (w1.setCell ⟨os[j].g, 3, none⟩ bv') ⟨{ os[j].hd with back := os[j].hd.back ++ [a] }, os[j].g, os[j].mv, bv'⟩ := by
    refine ⟨?_, ?_, ?_, hoj.lo⟩
    · exact kc.set 3 bv'
    · exact owns_set ((apm j hj).kept hoj.mem hg) kc (by decide) _
    · show World.ownsRow _ _ _ _ _ (os[j].hd.back ++ [a]).length (intsC (os[j].hd.back ++ [a]))
      rw [List.length_append]
      have e : intsC (os[j].hd.back ++ [a]) = intsC os[j].hd.back ++ [.int .i64 a] := by simp [intsC]
      rw [e]
      exact owns_set hrow kc (by decide) _
  have hother : ∀ (i : Nat) (hi : i < os.length), i ≠ j → HoAt W.heap.size (w1.setCell ⟨os[j].g, 3, none⟩ bv') os[i] := fun i hi hne => by
    have hi0 := h.here _ (List.getElem_mem hi)
    have h1 : HoAt W.heap.size w1 os[i] := hi0.grown hg (owns_whole hoj.back hi0.cell (by decide)) (fun g hg' he => apm i hi g he hg') (fun g hg' he => apb i hi hne g he hg')
    exact h1.set kc (gne i hi hne) (by decide) _
  have hmapg : ∀ s, findG (os.set j ⟨{ os[j].hd with back := os[j].hd.back ++ [a] }, os[j].g, os[j].mv, bv'⟩) s = findG os s := fun s => by
    have e : ∀ (l : List Ho) (j : Nat) (hj : j < l.length) (x : Ho), x.hd.id = l[j].hd.id → x.g = l[j].g → findG (l.set j x) s = findG l s := by
      intro l
      induction l with
      | nil => intro j hj; simp at hj
      | cons y l ih =>
        intro j hj x h1 h2
        cases j with
        | zero =>
          show ((x :: l).find? _).map _ = ((y :: l).find? _).map _
          simp only [List.getElem_cons_zero] at h1 h2
          rw [List.find?_cons, List.find?_cons, h1]
          split
          · simp [h2]
          · rfl
        | succ j =>
          simp only [List.getElem_cons_succ] at h1 h2
          have := ih j (by simpa using hj) x h1 h2
          show ((y :: l.set j x).find? _).map _ = ((y :: l).find? _).map _
          rw [List.find?_cons, List.find?_cons]
          split
          · rfl
          · exact this
    exact e os j hj _ rfl rfl
  refine ⟨?_, ?_, ?_, ?_, ?_, ?_, ?_, ?_, ?_, h.los⟩
  · exact (h.low.grown hg h.low.size (fun k e => (hoj.back.lt k e).1)).setCell (p := ⟨os[j].g, 3, none⟩) hoj.lo _
  · exact (key h.res (by decide)).far (p := ⟨os[j].g, 3, none⟩) (h.res.apart hoj.cell (by decide)) _
  · exact (key h.var (by decide)).far (p := ⟨os[j].g, 3, none⟩) (h.var.apart hoj.cell (by decide)) _
  · exact (key h.ord (by decide)).far (p := ⟨os[j].g, 3, none⟩) (h.ord.apart hoj.cell (by decide)) _
  · exact owns_set ((owns_apart hoj.back h.row (by decide)).kept h.row hg) kc (by decide) _
  · rw [List.length_set, show findG (os.set j _) = findG os from funext hmapg]
    exact (h.map.kept hg (h.map.ne_row hoj.back)).setCell (h.map.ne hoj.cell) _
  · intro o ho
    obtain ⟨i, hi, rfl⟩ := List.mem_iff_getElem.1 ho
    rw [List.length_set] at hi
    rw [List.getElem_set]
    split
    · exact hself
    · rename_i hne
      exact hother i hi (fun e => hne e.symm)
  · have hstep : ∀ u, Apart os[j].bv u → (∃ B e size k xs, w.ownsRow B e size u k xs) → Apart bv' u := fun u hu ⟨B, e, size, k, xs, hr⟩ => hu.step hr hloc
    rw [List.pairwise_iff_getElem]
    intro p q hp hq hpq
    rw [rl, List.length_set] at hp hq
    have hget : ∀ (p : Nat) (hp : p < (rows (os.set j ⟨{ os[j].hd with back := os[j].hd.back ++ [a] }, os[j].g, os[j].mv, bv'⟩)).length), (p = 2 * j + 1 ∧ (rows (os.set j ⟨{ os[j].hd with back := os[j].hd.back ++ [a] }, os[j].g, os[j].mv, bv'⟩))[p] = bv') ∨ (p ≠ 2 * j + 1 ∧ ∃ hp' : p < (rows os).length, (rows (os.set j ⟨{ os[j].hd with back := os[j].hd.back ++ [a] }, os[j].g, os[j].mv, bv'⟩))[p] = (rows os)[p]) := by
      intro p hp
      have hp2 : p < 2 * os.length := by rw [rl, List.length_set] at hp; exact hp
      obtain ⟨i, hi⟩ : ∃ i, p = 2 * i ∨ p = 2 * i + 1 := ⟨p / 2, by omega⟩
      have hio : i < os.length := by omega
      have g1 := rg (os.set j ⟨{ os[j].hd with back := os[j].hd.back ++ [a] }, os[j].g, os[j].mv, bv'⟩) i (by rw [List.length_set]; exact hio)
      have g2 := rg os i hio
      rw [List.getElem_set] at g1
      by_cases hij : j = i
      · subst hij
        rw [if_pos rfl] at g1
        rcases hi with rfl | rfl
        · refine Or.inr ⟨by omega, by rw [rl]; exact hp2, ?_⟩
          have e1 := g1.1
          have e2 := g2.1
          rw [List.getElem?_eq_getElem hp] at e1
          rw [List.getElem?_eq_getElem (by rw [rl]; exact hp2)] at e2
          rw [Option.some.inj e1, Option.some.inj e2]
        · refine Or.inl ⟨rfl, ?_⟩
          have e1 := g1.2
          rw [List.getElem?_eq_getElem hp] at e1
          exact Option.some.inj e1
      · rw [if_neg hij] at g1
        refine Or.inr ⟨by omega, by rw [rl]; exact hp2, ?_⟩
        rcases hi with rfl | rfl
        · have e1 := g1.1
          have e2 := g2.1
          rw [List.getElem?_eq_getElem hp] at e1
          rw [List.getElem?_eq_getElem (by rw [rl]; exact hp2)] at e2
          rw [Option.some.inj e1, Option.some.inj e2]
        · have e1 := g1.2
          have e2 := g2.2
          rw [List.getElem?_eq_getElem hp] at e1
          rw [List.getElem?_eq_getElem (by rw [rl]; exact hp2)] at e2
          rw [Option.some.inj e1, Option.some.inj e2]
    have hown : ∀ (k : Nat) (hk : k < (rows os).length), ∃ B e size n xs, w.ownsRow B e size (rows os)[k] n xs := fun k hk => by
      have hm := List.getElem_mem hk
      generalize (rows os)[k] = u at hm
      unfold rows at hm
      obtain ⟨x, hx, hux⟩ := List.mem_flatMap.1 hm
      simp only [List.mem_cons, List.not_mem_nil, or_false] at hux
      rcases hux with rfl | rfl
      · exact ⟨_, _, _, _, _, (h.here x hx).mem⟩
      · exact ⟨_, _, _, _, _, (h.here x hx).back⟩
    have apk : ∀ (k : Nat) (hk : k < (rows os).length), k ≠ 2 * j + 1 → Apart bv' (rows os)[k] := fun k hk hne => hstep _ (ap _ k hk rfl hne) (hown k hk)
    rcases hget p (by rw [rl, List.length_set]; exact hp) with ⟨h1, e1⟩ | ⟨h1, hp', e1⟩
    · rcases hget q (by rw [rl, List.length_set]; exact hq) with ⟨h2, e2⟩ | ⟨h2, hq', e2⟩
      · omega
      · rw [e1, e2]; exact apk q hq' h2
    · rcases hget q (by rw [rl, List.length_set]; exact hq) with ⟨h2, e2⟩ | ⟨h2, hq', e2⟩
      · rw [e1, e2]; exact (apk p hp' h1).symm
      · rw [e1, e2]; exact pw p q hp' hq' (by omega)
  · have e : (os.set j ⟨{ os[j].hd with back := os[j].hd.back ++ [a] }, os[j].g, os[j].mv, bv'⟩).map (·.g) = os.map (·.g) := by
      apply List.ext_getElem
      · simp
      intro i h1 h2
      rw [List.getElem_map, List.getElem_map, List.getElem_set]
      split
      · rename_i hji; subst hji; rfl
      · rfl
    rw [e]
    exact h.gs
end

end Go.Proofs.Ytfokbcakbbdlaaa
