/- Operations on disks as arguments: what their cells hold. -/
import Derived.Test.YtenddmcepfkbaaaDskHead
import Derived.Deep.Slices
import Derived.Deep.Fields
import Derived.OpenShut
import Derived.SizedLaws
namespace Go.Proofs.Ytenddmcepfkbaaa
open Go.ChangeShapes Go.WideShapes Go.ChangeAt Go.RowKit Go.Deep

/-- What the arguments owe. -/
def acFine (a : Ac) : Prop := a.text.size ≤ 9223372036854775807 ∧ a.after ≤ 9223372036854775807
section
variable {H : Type} {enc : TypeId × Value → H} {W : World} {base : Nat} {spare : Nat → Bool} {held : Bool} {v : Value} {d : DataW H} {p : List MemPlace}
theorem open_act {fuel : Nat} {cs : List Value} {x : DataW H × List MemPlace} (h : DataW.trod enc Try.prog W base spare held fuel 34 cs = some x) :
    ∃ a : Ac, cs = [.int .i64 a.kind, .int .i64 a.sector, .int .i64 a.byt, .string a.text, .bool a.odd, .int .i64 a.after] ∧ acFine a := by
  obtain ⟨xs, n, _, _, hl, hxl, hf⟩ := DataW.trod_struct Try.underlying34 h
  have hC : Try.prog.cellsOf 34 = 6 := by kernel_rfl
  have ci : Try.prog.cellsOf 3 = 1 := by kernel_rfl
  have cst : Try.prog.cellsOf 9 = 1 := by kernel_rfl
  have cb : Try.prog.cellsOf 4 = 1 := by kernel_rfl
  rw [hC] at hl
  match cs, hl with
  | [c0, c1, c2, c3, c4, c5], _ =>
    match xs, hxl with
    | [y0, y1, y2, y3, y4, y5], _ =>
      have g0 := hf 0 _ rfl
      have g1 := hf 1 _ rfl
      have g2 := hf 2 _ rfl
      have g3 := hf 3 _ rfl
      have g4 := hf 4 _ rfl
      have g5 := hf 5 _ rfl
      simp [ci] at g0 g1 g2 g5
      simp [cst] at g3
      simp [cb] at g4
      obtain ⟨k, e0, -, -⟩ := DataW.trod_int Try.underlying3 g0
      obtain ⟨s, e1, -, -⟩ := DataW.trod_int Try.underlying3 g1
      obtain ⟨y, e2, -, -⟩ := DataW.trod_int Try.underlying3 g2
      obtain ⟨t, e3, -, ht⟩ := DataW.trod_string Try.underlying9 g3
      obtain ⟨o, e4, -⟩ := DataW.trod_bool Try.underlying4 g4
      obtain ⟨f, e5, -, hw⟩ := DataW.trod_int Try.underlying3 g5
      simp only [List.cons.injEq, and_true] at e0 e1 e2 e3 e4 e5
      refine ⟨⟨k, s, y, t, o, f⟩, by rw [e0, e1, e2, e3, e4, e5], by unfold maxLen at ht; exact ht, ?_⟩
      simp only [Lit.wf, Bool.and_eq_true, decide_eq_true_eq] at hw
      have h3 : IntKind.i64.max = 9223372036854775807 := by decide
      show f ≤ 9223372036854775807
      omega

theorem open_act_val {r : Reach} {b0 : Nat} (hv : Value.okWide Try.prog W r b0 34 v) (h : DataW.Trod enc Try.prog W base spare held 34 v d p) : ∃ a : Ac, v = acV a ∧ acFine a := by
  obtain ⟨cs, rfl, hsz⟩ := okWide_struct Try.underlying34 hv
  obtain ⟨fuel, hf⟩ := h
  obtain ⟨a, ha, hfine⟩ := open_act hf
  refine ⟨a, ?_, hfine⟩
  unfold acV
  congr 1
  apply Array.ext'
  exact ha

theorem open_acts (hval : ∃ a len cap, v = .slice a len cap) (h : DataW.Trod enc Try.prog W 0 spare held 22 v d p) :
    ∃ ao l cap, v = .slice ao l.length cap ∧ IsActs W ao l ∧ l.length ≤ 9223372036854775807 ∧ ∀ a ∈ l, acFine a := by
  obtain ⟨a0, len0, cap0, rfl⟩ := hval
  obtain ⟨fuel, hf⟩ := h
  have hC : Try.prog.cellsOf 34 = 6 := by kernel_rfl
  rcases open_slice Try.underlying22 hf with ⟨hcs, _⟩ | ⟨a, len, cap, m, n, D, Pl, hcs, _, hl, hm, hmm, _, hi⟩
  · have : Value.slice a0 len0 cap0 = .slice none 0 0 := by simpa [Value.cells] using hcs
    exact ⟨none, [], 0, by rw [this]; rfl, Or.inl rfl, by simp, by simp⟩
  · have e : Value.slice a0 len0 cap0 = .slice (some a) len cap := by simpa [Value.cells] using hcs
    have hlm : len ≤ m := by rw [hmm]; split <;> omega
    obtain ⟨bk, off, spot⟩ := a
    have key : ∀ i, ∃ x : Ac, i < len → acFine x ∧ ∀ j u, [Value.int .i64 x.kind, .int .i64 x.sector, .int .i64 x.byt, .string x.text, .bool x.odd, .int .i64 x.after][j]? = some u → W.cell? ((⟨bk, off, spot⟩ : Addr).add (i * 6 + j)) = some u := by
      intro i
      by_cases hil : i < len
      · obtain ⟨cs', hc, ht⟩ := hi i (by omega)
        rw [hC] at hc
        obtain ⟨x, hx, hfine⟩ := open_act ht
        obtain ⟨_, hcl, hat⟩ := World.cells?_some hc
        refine ⟨x, fun _ => ⟨hfine, fun j u hu => ?_⟩⟩
        rw [← hx] at hu
        have hj : j < 6 := by have := (List.getElem?_eq_some_iff.1 hu).1; omega
        rw [← Go.Deep.add_add, hat j hj]
        exact hu
      · exact ⟨⟨0, 0, 0, ⟨#[]⟩, false, 0⟩, fun hh => absurd hh hil⟩
    obtain ⟨f, hff⟩ := Classical.axiomOfChoice key
    have hlen : ((List.range len).map f).length = len := by simp
    refine ⟨some ⟨bk, off, spot⟩, (List.range len).map f, cap, by rw [e, hlen], ?_, by rw [hlen]; unfold maxLen at hm; omega, ?_⟩
    · by_cases h0 : len = 0
      · exact Or.inl (by rw [h0]; rfl)
      · have h1 := (hff 0 (by omega)).2 0 _ rfl
        have hspot : spot = none := by simpa [Addr.add] using World.cell?_spot h1
        subst hspot
        have hadd : ∀ k, (⟨bk, off, none⟩ : Addr).add k = ⟨bk, off + k, none⟩ := fun k => by simp [Addr.add]
        refine Or.inr ⟨bk, off, rfl, ?_, fun k hk => ?_⟩
        · rw [hadd] at h1
          exact lt_of_cell h1
        · have hk' : k < len := by simpa using hk
          have h2 := (hff k hk').2
          have e2 : ((List.range len).map f)[k] = f k := by simp
          rw [e2]
          have g := fun j u hu => by have h3 := h2 j u hu; rw [hadd] at h3; exact h3
          exact ⟨g 0 _ rfl, g 1 _ rfl, g 2 _ rfl, g 3 _ rfl, g 4 _ rfl, g 5 _ rfl⟩
    · intro x hx
      obtain ⟨i, hi2, rfl⟩ := List.mem_map.1 hx
      exact (hff i (List.mem_range.1 hi2)).1
end

end Go.Proofs.Ytenddmcepfkbaaa
