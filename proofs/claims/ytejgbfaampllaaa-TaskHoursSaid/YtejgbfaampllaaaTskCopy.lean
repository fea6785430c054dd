/- A copy of a list of tasks, and what is put into it. -/
import Derived.Test.YtejgbfaampllaaaTskUndo
namespace Go.Proofs.Ytejgbfaampllaaa
open Go.RowKit

theorem info_task : (Try.prog.info? 41).map (fun i => (i.zero, i.size, i.bytes)) = some (some (.agg #[.int .i64 0, .int .i64 0, .bool false, .slice none 0 0]), 4, 48) := by kernel_rfl
def tkAt (l : List Tk) (i : Nat) : Tk := l.getD i ⟨0, 0, false, []⟩
theorem tkAt_get {l : List Tk} {i : Nat} (h : i < l.length) : tkAt l i = l[i] := by
  unfold tkAt
  rw [List.getD_eq_getElem?_getD, List.getElem?_eq_getElem h]; rfl
theorem tkAt_list (l : List Tk) : (List.range l.length).map (tkAt l) = l := by
  apply List.ext_getElem
  · simp
  · intro i h1 h2
    rw [List.getElem_map, List.getElem_range, tkAt_get h2]
theorem isInts_far {w : World} {ao : Option Addr} {zs : List Int} (h : IsInts w ao zs) {p : Addr} (hp : zs = [] ∨ ∀ a, ao = some a → a.block ≠ p.block) (u : Value) : IsInts (w.setCell p u) ao zs := by
  rcases h with h | ⟨bk, off, rfl, h2, h3⟩
  · exact Or.inl h
  · rcases hp with hp | hp
    · exact Or.inl hp
    · refine Or.inr ⟨bk, off, rfl, by simpa using h2, fun k hk => ?_⟩
      rw [World.cell?_setCell_other w p ⟨bk, off + k, none⟩ u (fun e => hp _ rfl (by rw [e]))]
      exact h3 k hk
/-- A block of tasks that may be written. -/
structure RowT (w : World) (g n : Nat) (T : Nat → Tk) : Prop where
  whole : ∃ cur, Whole w g 41 cur
  cells : ∀ k, k < n → w.cell? ⟨g, k * 4, none⟩ = some (.int .i64 (T k).hours) ∧ w.cell? ⟨g, k * 4 + 1, none⟩ = some (.int .i64 (T k).skill) ∧ w.cell? ⟨g, k * 4 + 2, none⟩ = some (.bool (T k).bay) ∧
    ∃ ao cap, w.cell? ⟨g, k * 4 + 3, none⟩ = some (.slice ao (T k).after.length cap) ∧ IsInts w ao (T k).after ∧ ((T k).after = [] ∨ ∀ a, ao = some a → a.block ≠ g)
theorem RowT.lt {w : World} {g n : Nat} {T : Nat → Tk} (h : RowT w g n T) : g < w.heap.size := by
  obtain ⟨cur, hc⟩ := h.whole
  exact hc.lt
theorem RowT.below {w w' : World} {g n : Nat} {T : Nat → Tk} (h : RowT w g n T) (hb : Below w.heap.size w w') : RowT w' g n T := by
  have hl := h.lt
  obtain ⟨cur, hc⟩ := h.whole
  refine ⟨⟨cur, (hb.block g hl).trans hc⟩, fun k hk => ?_⟩
  obtain ⟨h1, h2, h3, ao, cap, h4, h5, h6⟩ := h.cells k hk
  exact ⟨(hb.cell (p := ⟨g, k * 4, none⟩) hl).trans h1, (hb.cell (p := ⟨g, k * 4 + 1, none⟩) hl).trans h2, (hb.cell (p := ⟨g, k * 4 + 2, none⟩) hl).trans h3, ao, cap, (hb.cell (p := ⟨g, k * 4 + 3, none⟩) hl).trans h4, h5.below hb, h6⟩
theorem RowT.frozen {w : World} {g n : Nat} {T : Nat → Tk} (h : RowT w g n T) (i : Nat) : w.frozen? ⟨g, i, none⟩ = false := by
  obtain ⟨cur, hc⟩ := h.whole
  exact hc.frozen i
theorem RowT.tasks {w : World} {g n : Nat} {T : Nat → Tk} (h : RowT w g n T) : IsTasks w (some ⟨g, 0, none⟩) ((List.range n).map T) := by
  refine Or.inr ⟨g, 0, rfl, h.lt, fun k hk => ?_⟩
  have hk' : k < n := by simpa using hk
  obtain ⟨h1, h2, h3, ao, cap, h4, h5, _⟩ := h.cells k hk'
  have e : ((List.range n).map T)[k] = T k := by simp
  rw [e, Nat.zero_add]
  exact ⟨h1, h2, h3, ao, cap, h4, h5⟩
def withAfter (t : Tk) (zs : List Int) : Tk := ⟨t.hours, t.skill, t.bay, zs⟩
theorem RowT.put {w : World} {g n : Nat} {T : Nat → Tk} (h : RowT w g n T) {k : Nat} (hk : k < n) {vo : Option Addr} {zs : List Int} {vc : Nat} (hi : IsInts w vo zs) (ho : zs = [] ∨ ∀ a, vo = some a → a.block ≠ g) :
    RowT (w.setCell ⟨g, k * 4 + 3, none⟩ (.slice vo zs.length vc)) g n (fun i => if i = k then withAfter (T i) zs else T i) := by
  obtain ⟨cur, hc⟩ := h.whole
  refine ⟨⟨_, hc.set (k * 4 + 3) _⟩, fun i hin => ?_⟩
  obtain ⟨h1, h2, h3, ao, cap, h4, h5, h6⟩ := h.cells i hin
  have hne : ∀ j : Nat, j ≠ k * 4 + 3 → (w.setCell ⟨g, k * 4 + 3, none⟩ (.slice vo zs.length vc)).cell? ⟨g, j, none⟩ = w.cell? ⟨g, j, none⟩ := fun j hj => World.cell?_setCell_other w _ _ _ (fun e => hj (by injection e with _ e2 _; exact e2.symm))
  by_cases e : i = k
  · subst e
    rw [if_pos rfl]
    refine ⟨by rw [hne _ (by omega)]; exact h1, by rw [hne _ (by omega)]; exact h2, by rw [hne _ (by omega)]; exact h3, vo, vc, ?_, isInts_far hi (p := ⟨g, i * 4 + 3, none⟩) ho _, ho⟩
    exact World.cell?_setCell_same w _ _ h4
  · rw [if_neg e]
    exact ⟨by rw [hne _ (by omega)]; exact h1, by rw [hne _ (by omega)]; exact h2, by rw [hne _ (by omega)]; exact h3, ao, cap, by rw [hne _ (by omega)]; exact h4, isInts_far h5 (p := ⟨g, k * 4 + 3, none⟩) h6 _, h6⟩

/-- The cells of a row of tasks. -/
def cellT (T : Nat → Tk) (A : Nat → Option Addr) (C : Nat → Nat) (j : Nat) : Value :=
  match j % 4 with
  | 0 => .int .i64 (T (j / 4)).hours
  | 1 => .int .i64 (T (j / 4)).skill
  | 2 => .bool (T (j / 4)).bay
  | _ => .slice (A (j / 4)) (T (j / 4)).after.length (C (j / 4))
def cellsT (n : Nat) (T : Nat → Tk) (A : Nat → Option Addr) (C : Nat → Nat) : List Value := (List.range (n * 4)).map (cellT T A C)
theorem cellsT_len (n : Nat) (T : Nat → Tk) (A : Nat → Option Addr) (C : Nat → Nat) : (cellsT n T A C).length = n * 4 := by simp [cellsT]
theorem cellsT_one (n : Nat) (T : Nat → Tk) (A : Nat → Option Addr) (C : Nat → Nat) : ∀ u ∈ cellsT n T A C, u.oneCell' = true := by
  intro u hu
  obtain ⟨j, _, rfl⟩ := List.mem_map.1 hu
  unfold cellT
  split <;> rfl
theorem cellT_at (T : Nat → Tk) (A : Nat → Option Addr) (C : Nat → Nat) (k : Nat) : cellT T A C (k * 4) = .int .i64 (T k).hours ∧ cellT T A C (k * 4 + 1) = .int .i64 (T k).skill ∧ cellT T A C (k * 4 + 2) = .bool (T k).bay ∧ cellT T A C (k * 4 + 3) = .slice (A k) (T k).after.length (C k) := by
  unfold cellT
  refine ⟨?_, ?_, ?_, ?_⟩
  · rw [show k * 4 % 4 = 0 by omega, show k * 4 / 4 = k by omega]; rfl
  · rw [show (k * 4 + 1) % 4 = 1 by omega, show (k * 4 + 1) / 4 = k by omega]; rfl
  · rw [show (k * 4 + 2) % 4 = 2 by omega, show (k * 4 + 2) / 4 = k by omega]; rfl
  · rw [show (k * 4 + 3) % 4 = 3 by omega, show (k * 4 + 3) / 4 = k by omega]; rfl
/-- What lies in the list's memory. -/
theorem cells_of_tasks {W : World} {l : List Tk} {ad : Addr} (h : IsTasks W (some ad) l) : ∃ A C, (∀ i, i < l.length → IsInts W (A i) (tkAt l i).after ∧ ((tkAt l i).after = [] ∨ ∀ a, A i = some a → a.block < W.heap.size)) ∧
    ∀ j u, (cellsT l.length (tkAt l) A C)[j]? = some u → W.cell? (ad.add j) = some u := by
  rcases h with rfl | ⟨bk, off, he, hbk, hat⟩
  · exact ⟨fun _ => none, fun _ => 0, fun i hi => by simp at hi, fun j u hu => by simp [cellsT] at hu⟩
  · obtain rfl := Option.some.inj he
    have key : ∀ i, ∃ p : Option Addr × Nat, i < l.length → W.cell? ⟨bk, off + i * 4 + 3, none⟩ = some (.slice p.1 (tkAt l i).after.length p.2) ∧ IsInts W p.1 (tkAt l i).after := fun i => by
      by_cases hi : i < l.length
      · obtain ⟨_, _, _, ao, cap, h4, h5⟩ := hat i hi
        exact ⟨(ao, cap), fun _ => by rw [tkAt_get hi]; exact ⟨h4, h5⟩⟩
      · exact ⟨(none, 0), fun hh => absurd hh hi⟩
    obtain ⟨f, hf⟩ := Classical.axiomOfChoice key
    refine ⟨fun i => (f i).1, fun i => (f i).2, fun i hi => ⟨(hf i hi).2, ?_⟩, fun j u hu => ?_⟩
    · rcases (hf i hi).2 with h | ⟨b2, o2, h1, h2, _⟩
      · exact Or.inl h
      · refine Or.inr fun a ha => ?_
        have ha' : (f i).1 = some a := ha
        rw [h1] at ha'
        obtain rfl := Option.some.inj ha'
        exact h2
    · obtain ⟨hj, hje⟩ := List.getElem?_eq_some_iff.1 hu
      have hj4 : j < l.length * 4 := by rw [cellsT_len] at hj; exact hj
      have hk : j / 4 < l.length := by omega
      have e : (⟨bk, off, none⟩ : Addr).add j = ⟨bk, off + j, none⟩ := by simp [Addr.add]
      rw [e, ← hje]
      obtain ⟨c1, c2, c3, _⟩ := hat (j / 4) hk
      have c4 := (hf (j / 4) hk).1
      rw [← tkAt_get hk] at c1 c2 c3
      have hc := cellT_at (tkAt l) (fun i => (f i).1) (fun i => (f i).2) (j / 4)
      have ev : (cellsT l.length (tkAt l) (fun i => (f i).1) (fun i => (f i).2))[j] = cellT (tkAt l) (fun i => (f i).1) (fun i => (f i).2) j := by simp [cellsT]
      rw [ev]
      have hm : j % 4 = 0 ∨ j % 4 = 1 ∨ j % 4 = 2 ∨ j % 4 = 3 := by omega
      rcases hm with hm | hm | hm | hm
      · have ej : j = j / 4 * 4 := by omega
        rw [ej, hc.1]; exact c1
      · have ej : j = j / 4 * 4 + 1 := by omega
        rw [ej, hc.2.1]; exact c2
      · have ej : j = j / 4 * 4 + 2 := by omega
        rw [ej, hc.2.2.1]; exact c3
      · have ej : j = j / 4 * 4 + 3 := by omega
        rw [ej, hc.2.2.2]; exact c4
/-- The copy. -/
theorem copy_row {W w' : World} {l : List Tk} {B g cap : Nat} {A : Nat → Option Addr} {C : Nat → Nat} (hA : ∀ i, i < l.length → IsInts W (A i) (tkAt l i).after ∧ ((tkAt l i).after = [] ∨ ∀ a, A i = some a → a.block < W.heap.size))
    (hb : Below W.heap.size W w') (hB : W.heap.size ≤ B) (hown : w'.ownsRow B 41 4 (.slice (some ⟨g, 0, none⟩) l.length cap) l.length (cellsT l.length (tkAt l) A C)) : RowT w' g l.length (tkAt l) := by
  refine ⟨?_, fun k hk => ?_⟩
  · rcases hown.2 with ⟨h, _⟩ | ⟨g', cap', cur, h, _, hc, _⟩
    · simp at h
    · simp only [Value.slice.injEq, Option.some.injEq, Addr.mk.injEq, and_true] at h
      obtain ⟨rfl, -⟩ := h
      exact ⟨cur, hc⟩
  · have hg := (hown.lt g rfl).1
    have hc := cellT_at (tkAt l) A C k
    have hat : ∀ j, j < l.length * 4 → w'.cell? ⟨g, j, none⟩ = some (cellT (tkAt l) A C j) := fun j hj => by
      rw [hown.cellAt j hj]
      simp [cellsT, hj]
    obtain ⟨h1, h2⟩ := hA k hk
    exact ⟨by rw [hat _ (by omega), hc.1], by rw [hat _ (by omega), hc.2.1], by rw [hat _ (by omega), hc.2.2.1], A k, C k, by rw [hat _ (by omega), hc.2.2.2], h1.below hb, h2.imp id fun hh a ha => by have := hh a ha; omega⟩

end Go.Proofs.Ytejgbfaampllaaa
