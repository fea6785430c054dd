/- Tasks in memory, and as arguments. -/
import Derived.Test.YtejgbfaampllaaaGrown
import Derived.Test.YtejgbfaampllaaaOpenWide
import Derived.Test.YtejgbfaampllaaaOnly
import Derived.Test.YtejgbfaampllaaaTskMath
import Derived.Test.YtejgbfaampllaaaTwo
import Derived.Deep.Slices
import Derived.Deep.Fields
namespace Go.Proofs.Ytejgbfaampllaaa
open Go.ChangeShapes Go.WideShapes Go.ChangeAt Go.RowKit Go.Deep

/-- The four cells of a task. -/
def IsTask (W : World) (b off : Nat) (t : Tk) : Prop :=
  W.cell? ⟨b, off, none⟩ = some (.int .i64 t.hours) ∧ W.cell? ⟨b, off + 1, none⟩ = some (.int .i64 t.skill) ∧ W.cell? ⟨b, off + 2, none⟩ = some (.bool t.bay) ∧
    ∃ ao cap, W.cell? ⟨b, off + 3, none⟩ = some (.slice ao t.after.length cap) ∧ IsInts W ao t.after
theorem IsTask.lt {W : World} {b off : Nat} {t : Tk} (h : IsTask W b off t) : b < W.heap.size := lt_of_cell h.1
theorem IsTask.below {W W' : World} {b off : Nat} {t : Tk} (h : IsTask W b off t) (hb : Below W.heap.size W W') : IsTask W' b off t := by
  have hl := h.lt
  obtain ⟨h1, h2, h3, ao, cap, h4, h5⟩ := h
  exact ⟨(hb.cell (p := ⟨b, off, none⟩) hl).trans h1, (hb.cell (p := ⟨b, off + 1, none⟩) hl).trans h2, (hb.cell (p := ⟨b, off + 2, none⟩) hl).trans h3, ao, cap, (hb.cell (p := ⟨b, off + 3, none⟩) hl).trans h4, h5.below hb⟩
/-- A list of tasks lies behind this address. -/
def IsTasks (W : World) (ao : Option Addr) (l : List Tk) : Prop :=
  l = [] ∨ ∃ bk off, ao = some ⟨bk, off, none⟩ ∧ bk < W.heap.size ∧ ∀ k, (h : k < l.length) → IsTask W bk (off + k * 4) l[k]
theorem IsTasks.below {W W' : World} {ao : Option Addr} {l : List Tk} (h : IsTasks W ao l) (hb : Below W.heap.size W W') : IsTasks W' ao l := by
  rcases h with h | ⟨bk, off, h1, h2, h3⟩
  · exact Or.inl h
  · exact Or.inr ⟨bk, off, h1, Nat.lt_of_lt_of_le h2 hb.size, fun k hk => (h3 k hk).below hb⟩
theorem IsTasks.at {W : World} {ao : Option Addr} {l : List Tk} (h : IsTasks W ao l) {k : Nat} (hk : k < l.length) : ∃ bk off, ao = some ⟨bk, off, none⟩ ∧ bk < W.heap.size ∧ IsTask W bk (off + k * 4) l[k] := by
  rcases h with h | ⟨bk, off, h1, h2, h3⟩
  · subst h; simp at hk
  · exact ⟨bk, off, h1, h2, h3 k hk⟩
theorem IsInts.at {W : World} {ao : Option Addr} {zs : List Int} (h : IsInts W ao zs) {k : Nat} (hk : k < zs.length) : ∃ bk off, ao = some ⟨bk, off, none⟩ ∧ bk < W.heap.size ∧ W.cell? ⟨bk, off + k, none⟩ = some (.int .i64 zs[k]) := by
  rcases h with h | ⟨bk, off, h1, h2, h3⟩
  · subst h; simp at hk
  · exact ⟨bk, off, h1, h2, h3 k hk⟩
/-- What the arguments owe. -/
def tkFine (t : Tk) : Prop := t.after.length ≤ 9223372036854775807 ∧ ∀ z ∈ t.after, -9223372036854775808 ≤ z ∧ z ≤ 9223372036854775807
section
variable {H : Type} {enc : TypeId × Value → H} {W : World} {spare : Nat → Bool} {held : Bool} {v : Value} {d : DataW H} {p : List MemPlace}
theorem open_ints_cs {P : Program} {t e : TypeId} {fuel : Nat} {cs : List Value} {x : DataW H × List MemPlace} (ht : P.underlying t = some (.slice e)) (he : P.underlying e = some (.int .i64)) (hc : P.cellsOf e = 1)
    (hf : DataW.trod enc P W 0 spare held fuel t cs = some x) : ∃ ao zs cap, cs = [.slice ao zs.length cap] ∧ IsInts W ao zs ∧ (∀ z ∈ zs, (Lit.int .i64 z).wf = true) ∧ zs.length ≤ 9223372036854775807 := by
  rcases open_ints ht he hc hf with ⟨hcs, _⟩ | ⟨a, len, cap, zs, hcs, _, hl, hm, hz, hx, hcell, hw⟩
  · exact ⟨none, [], 0, by rw [hcs]; rfl, Or.inl rfl, by simp, by simp⟩
  · have hlen : (zs.take len).length = len := by rw [List.length_take]; split at hz <;> omega
    refine ⟨some a, zs.take len, cap, by rw [hcs, hlen], ?_, fun z hz => hw z (List.mem_of_mem_take hz), by rw [hlen]; exact Nat.le_trans hl (Nat.le_trans hm (by decide))⟩
    by_cases h0 : len = 0
    · exact Or.inl (by rw [h0]; rfl)
    · obtain ⟨bk, off, spot⟩ := a
      have hpos : 0 < zs.length := by split at hz <;> omega
      have hspot : spot = none := by simpa [Addr.add] using World.cell?_spot (hcell 0 hpos)
      subst hspot
      have hcell' : ∀ k, (h : k < (zs.take len).length) → W.cell? ⟨bk, off + k, none⟩ = some (.int .i64 (zs.take len)[k]) := by
        intro k hk
        have h1 := hcell k (by rw [List.length_take] at hk; omega)
        have h2 : zs.getD k 0 = (zs.take len)[k] := by
          rw [List.getElem_take, List.getD_eq_getElem?_getD, List.getElem?_eq_getElem (by rw [List.length_take] at hk; omega)]; rfl
        have h3 : (⟨bk, off, none⟩ : Addr).add k = ⟨bk, off + k, none⟩ := by simp [Addr.add]
        rw [h2, h3] at h1
        exact h1
      exact Or.inr ⟨bk, off, rfl, lt_of_cell (hcell' 0 (by omega)), hcell'⟩
theorem open_task {fuel : Nat} {cs : List Value} {x : DataW H × List MemPlace} (h : DataW.trod enc Try.prog W 0 spare held fuel 41 cs = some x) :
    ∃ t : Tk, tkFine t ∧ ∃ ao cap, cs = [.int .i64 t.hours, .int .i64 t.skill, .bool t.bay, .slice ao t.after.length cap] ∧ IsInts W ao t.after := by
  obtain ⟨xs, n, _, _, hl, hxl, hf⟩ := DataW.trod_struct Try.underlying41 h
  have hC : Try.prog.cellsOf 41 = 4 := by kernel_rfl
  have ci : Try.prog.cellsOf 3 = 1 := by kernel_rfl
  have cs1 : Try.prog.cellsOf 26 = 1 := by kernel_rfl
  have cb : Try.prog.cellsOf 4 = 1 := by kernel_rfl
  rw [hC] at hl
  match cs, hl with
  | [c0, c1, c2, c3], _ =>
    match xs, hxl with
    | [y0, y1, y2, y3], _ =>
      have g0 := hf 0 _ rfl
      have g1 := hf 1 _ rfl
      have g2 := hf 2 _ rfl
      have g3 := hf 3 _ rfl
      simp [ci] at g0 g1
      simp [cb] at g2
      simp [cs1] at g3
      obtain ⟨k, e0, -, -⟩ := DataW.trod_int Try.underlying3 g0
      obtain ⟨s, e1, -, -⟩ := DataW.trod_int Try.underlying3 g1
      obtain ⟨o, e2, -⟩ := DataW.trod_bool Try.underlying4 g2
      obtain ⟨ao, zs, cap, e3, hi, hz, hn⟩ := open_ints_cs Try.underlying26 Try.underlying3 ci g3
      simp only [List.cons.injEq, and_true] at e0 e1 e2 e3
      refine ⟨⟨k, s, o, zs⟩, ⟨hn, fun z hz' => bounds_i64 (hz z hz')⟩, ao, cap, by rw [e0, e1, e2, e3], hi⟩

theorem open_tasks (hval : ∃ a len cap, v = .slice a len cap) (h : DataW.Trod enc Try.prog W 0 spare held 22 v d p) :
    ∃ ao l cap, v = .slice ao l.length cap ∧ IsTasks W ao l ∧ l.length ≤ 9223372036854775807 ∧ ∀ t ∈ l, tkFine t := by
  obtain ⟨a0, len0, cap0, rfl⟩ := hval
  obtain ⟨fuel, hf⟩ := h
  have hC : Try.prog.cellsOf 41 = 4 := by kernel_rfl
  rcases open_slice Try.underlying22 hf with ⟨hcs, _⟩ | ⟨a, len, cap, m, n, D, Pl, hcs, _, hl, hm, hmm, _, hi⟩
  · have : Value.slice a0 len0 cap0 = .slice none 0 0 := by simpa [Value.cells] using hcs
    exact ⟨none, [], 0, by rw [this]; rfl, Or.inl rfl, by simp, by simp⟩
  · have e : Value.slice a0 len0 cap0 = .slice (some a) len cap := by simpa [Value.cells] using hcs
    have hlm : len ≤ m := by rw [hmm]; split <;> omega
    obtain ⟨bk, off, spot⟩ := a
    have key : ∀ i, ∃ x : Tk, i < len → tkFine x ∧ ∃ ao c, IsInts W ao x.after ∧ ∀ j u, [Value.int .i64 x.hours, .int .i64 x.skill, .bool x.bay, .slice ao x.after.length c][j]? = some u → W.cell? ((⟨bk, off, spot⟩ : Addr).add (i * 4 + j)) = some u := by
      intro i
      by_cases hil : i < len
      · obtain ⟨cs', hc, ht⟩ := hi i (by omega)
        rw [hC] at hc
        obtain ⟨x, hfine, ao, c, hx, hin⟩ := open_task ht
        obtain ⟨_, hcl, hat⟩ := World.cells?_some hc
        refine ⟨x, fun _ => ⟨hfine, ao, c, hin, fun j u hu => ?_⟩⟩
        rw [← hx] at hu
        have hj : j < 4 := by have := (List.getElem?_eq_some_iff.1 hu).1; omega
        rw [← Go.Deep.add_add, hat j hj]
        exact hu
      · exact ⟨⟨0, 0, false, []⟩, fun hh => absurd hh hil⟩
    obtain ⟨f, hff⟩ := Classical.axiomOfChoice key
    have hlen : ((List.range len).map f).length = len := by simp
    refine ⟨some ⟨bk, off, spot⟩, (List.range len).map f, cap, by rw [e, hlen], ?_, by rw [hlen]; unfold maxLen at hm; omega, ?_⟩
    · by_cases h0 : len = 0
      · exact Or.inl (by rw [h0]; rfl)
      · obtain ⟨_, ao0, c0, _, hh0⟩ := hff 0 (by omega)
        have h1 := hh0 0 _ rfl
        have hspot : spot = none := by simpa [Addr.add] using World.cell?_spot h1
        subst hspot
        have hadd : ∀ k, (⟨bk, off, none⟩ : Addr).add k = ⟨bk, off + k, none⟩ := fun k => by simp [Addr.add]
        refine Or.inr ⟨bk, off, rfl, ?_, fun k hk => ?_⟩
        · rw [hadd] at h1
          exact lt_of_cell h1
        · have hk' : k < len := by simpa using hk
          obtain ⟨_, ao, c, hin, h2⟩ := hff k hk'
          have e2 : ((List.range len).map f)[k] = f k := by simp
          rw [e2]
          have g := fun j u hu => by have h3 := h2 j u hu; rw [hadd] at h3; exact h3
          exact ⟨g 0 _ rfl, g 1 _ rfl, g 2 _ rfl, ao, c, g 3 _ rfl, hin⟩
    · intro x hx
      obtain ⟨i, hi2, rfl⟩ := List.mem_map.1 hx
      exact (hff i (List.mem_range.1 hi2)).1
end

end Go.Proofs.Ytejgbfaampllaaa
