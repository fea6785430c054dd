/- Records and holds in memory, and as arguments. -/
import Derived.Test.YtfokbcakbbdlaaaGrown
import Derived.Test.YtfokbcakbbdlaaaOpenSeal
import Derived.Test.YtfokbcakbbdlaaaHldMath
import Derived.Test.YtfokbcakbbdlaaaTwo
import Derived.Test.YtfokbcakbbdlaaaOnly
import Derived.Test.YtfokbcakbbdlaaaAppApart
import Derived.Deep.Slices
import Derived.Deep.Fields
import Derived.Deep.MidRow
namespace Go.Proofs.Ytfokbcakbbdlaaa
open Go.ChangeShapes Go.WideShapes Go.ChangeAt Go.RowKit Go.Deep
open Hld (Rc Hd)


/-! ### Every cell that reads as data is one cell -/
/-- A type whose cells are all those of its fields. -/
def flatB (P : Program) : Nat → TypeId → Bool
  | 0, _ => false
  | n + 1, t => match P.underlying t with
    | some (.struct fs) => (List.range (P.cellsOf t)).all fun i => fs.toList.any fun f => decide (f.offset ≤ i) && (decide (i < f.offset + P.cellsOf f.type) && flatB P n f.type)
    | some (.array _ _) => false
    | some _ => true
    | none => false
section
variable {H : Type} {enc : TypeId × Value → H} {W : World} {base : Nat} {spare : Nat → Bool} {held : Bool} {v : Value} {d : DataW H} {p : List MemPlace}
theorem trod_one {P : Program} : ∀ (n fuel : Nat) (t : TypeId) (cs : List Value) (x : DataW H × List MemPlace), flatB P n t = true → DataW.trod enc P W base spare held fuel t cs = some x → ∀ v ∈ cs, v.oneCell' = true
  | 0, _, _, _, _, h, _ => by cases h
  | n + 1, fuel, t, cs, x, hB, h => by
    cases hu : P.underlying t with
    | none => unfold flatB at hB; rw [hu] at hB; cases hB
    | some dsc =>
      cases hds : dsc with
      | struct fs =>
        subst hds
        obtain ⟨xs, m, rfl, _, hl, hxl, hf⟩ := DataW.trod_struct hu h
        unfold flatB at hB
        rw [hu] at hB
        dsimp only at hB
        intro v hv
        obtain ⟨i, hi, rfl⟩ := List.mem_iff_getElem.1 hv
        have h1 := List.all_eq_true.1 hB i (List.mem_range.2 (by omega))
        obtain ⟨f, hf1, hf2⟩ := List.any_eq_true.1 h1
        simp only [Bool.and_eq_true, decide_eq_true_eq] at hf2
        obtain ⟨g1, g2, g3⟩ := hf2
        obtain ⟨q, hq, hq2⟩ := List.mem_iff_getElem.1 hf1
        have h2 := hf q f (by rw [Array.getElem?_eq_getElem (by simpa using hq)]; simpa using hq2)
        have hqx : q < xs.length := by rw [hxl]; simpa using hq
        rw [List.getElem?_eq_getElem hqx] at h2
        refine trod_one n m f.type _ _ g3 h2 _ ?_
        have e : ((cs.drop f.offset).take (P.cellsOf f.type))[i - f.offset]? = some cs[i] := by
          rw [List.getElem?_take_of_lt (by omega), List.getElem?_drop, show f.offset + (i - f.offset) = i by omega, List.getElem?_eq_getElem hi]
        exact List.mem_of_getElem? e
      | array m e => subst hds; unfold flatB at hB; rw [hu] at hB; cases hB
      | _ =>
        subst hds
        cases fuel with
        | zero => simp [DataW.trod] at h
        | succ fuel =>
          unfold DataW.trod at h
          rw [hu] at h
          intro v hv
          match cs, h, hv with
          | [], h, hv => simp at hv
          | c :: c' :: r, h, _ => first | (simp at h) | (split at h <;> simp_all)
          | [c], h, hv =>
            rw [List.mem_singleton.1 hv]
            cases c <;> first | rfl | (simp at h)
end
/-! ### Records -/
/-- What a record's cells are. -/
structure RcOk (r : Rc) : Prop where
  len : r.cells.length = 36
  one : ∀ v ∈ r.cells, v.oneCell' = true
  c0 : r.cells[0]? = some (.int .i64 r.kind)
  c1 : r.cells[1]? = some (.int .i64 r.author)
  c5 : r.cells[5]? = some (.string r.target)
  c6 : r.cells[6]? = some (.string r.name)
  c8 : r.cells[8]? = some (.slice r.mo r.members.length r.mc)
  few : r.members.length ≤ 9223372036854775807
  t9 : r.target.size ≤ 9223372036854775807
  n9 : r.name.size ≤ 9223372036854775807
/-- A list of records lies behind this address. -/
def IsRecs (W : World) (ao : Option Addr) (l : List Rc) : Prop :=
  (∀ r ∈ l, RcOk r ∧ IsInts W r.mo r.members) ∧ (l = [] ∨ ∃ bk off, ao = some ⟨bk, off, none⟩ ∧ bk < W.heap.size ∧ ∀ k, (h : k < l.length) → W.rangeAt bk (off + k * 36) l[k].cells)
theorem range_below {W W' : World} {b o : Nat} {cs : List Value} (h : W.rangeAt b o cs) (hl : b < W.heap.size) (hb : Below W.heap.size W W') : W'.rangeAt b o cs := fun j v hv => (hb.cell (p := ⟨b, o + j, none⟩) hl).trans (h j v hv)
theorem IsRecs.below {W W' : World} {ao : Option Addr} {l : List Rc} (h : IsRecs W ao l) (hb : Below W.heap.size W W') : IsRecs W' ao l := by
  refine ⟨fun r hr => ⟨(h.1 r hr).1, (h.1 r hr).2.below hb⟩, ?_⟩
  rcases h.2 with h | ⟨bk, off, h1, h2, h3⟩
  · exact Or.inl h
  · exact Or.inr ⟨bk, off, h1, Nat.lt_of_lt_of_le h2 hb.size, fun k hk => range_below (h3 k hk) h2 hb⟩
theorem IsRecs.at {W : World} {ao : Option Addr} {l : List Rc} (h : IsRecs W ao l) {k : Nat} (hk : k < l.length) : ∃ bk off, ao = some ⟨bk, off, none⟩ ∧ bk < W.heap.size ∧ W.rangeAt bk (off + k * 36) l[k].cells ∧ RcOk l[k] ∧ IsInts W l[k].mo l[k].members := by
  rcases h.2 with h2 | ⟨bk, off, h1, h2, h3⟩
  · subst h2; simp at hk
  · exact ⟨bk, off, h1, h2, h3 k hk, h.1 _ (List.getElem_mem hk)⟩
theorem IsInts.at {W : World} {ao : Option Addr} {zs : List Int} (h : IsInts W ao zs) {k : Nat} (hk : k < zs.length) : ∃ bk off, ao = some ⟨bk, off, none⟩ ∧ bk < W.heap.size ∧ W.cell? ⟨bk, off + k, none⟩ = some (.int .i64 zs[k]) := by
  rcases h with h | ⟨bk, off, h1, h2, h3⟩
  · subst h; simp at hk
  · exact ⟨bk, off, h1, h2, h3 k hk⟩
theorem IsStrs.at {W : World} {ao : Option Addr} {ss : List ByteArray} (h : IsStrs W ao ss) {k : Nat} (hk : k < ss.length) : ∃ bk off, ao = some ⟨bk, off, none⟩ ∧ bk < W.heap.size ∧ W.cell? ⟨bk, off + k, none⟩ = some (.string ss[k]) := by
  rcases h with h | ⟨bk, off, h1, h2, h3⟩
  · subst h; simp at hk
  · exact ⟨bk, off, h1, h2, h3 k hk⟩

section
variable {H : Type} {enc : TypeId × Value → H} {W : World} {base : Nat} {spare : Nat → Bool} {held : Bool} {v : Value} {d : DataW H} {p : List MemPlace}
theorem open_ints_cells {fuel : Nat} {cs : List Value} {x : DataW H × List MemPlace} (h : DataW.trod enc Try.prog W base spare held fuel 29 cs = some x) :
    ∃ ao zs cap, cs = [.slice ao (List.length zs) cap] ∧ IsInts W ao zs ∧ zs.length ≤ 9223372036854775807 := by
  rcases open_ints Try.underlying29 Try.underlying3 (show Try.prog.cellsOf 3 = 1 by kernel_rfl) h with ⟨hcs, _⟩ | ⟨a, len, cap, zs, hcs, _, hl, hm, hz, hx, hcell, hw⟩
  · exact ⟨none, [], 0, hcs, Or.inl rfl, by simp⟩
  · have hlen : (zs.take len).length = len := by rw [List.length_take]; split at hz <;> omega
    refine ⟨some a, zs.take len, cap, by rw [hcs, hlen], ?_, by rw [hlen]; exact Nat.le_trans hl (Nat.le_trans hm (by decide))⟩
    by_cases h0 : len = 0
    · exact Or.inl (by rw [h0]; rfl)
    · obtain ⟨bk, off, spot⟩ := a
      have hpos : 0 < zs.length := by split at hz <;> omega
      have hspot : spot = none := by simpa [Addr.add] using World.cell?_spot (hcell 0 hpos)
      subst hspot
      have hcell' : ∀ k, (h : k < (zs.take len).length) → W.cell? ⟨bk, off + k, none⟩ = some (.int .i64 (zs.take len)[k]) := by
        intro k hk
        have h1 := hcell k (by rw [List.length_take] at hk; omega)
        have h2 : zs.getD k 0 = (zs.take len)[k] := by
          rw [List.getElem_take, List.getD_eq_getElem?_getD, List.getElem?_eq_getElem (by rw [List.length_take] at hk; omega)]; rfl
        have h3 : (⟨bk, off, none⟩ : Addr).add k = ⟨bk, off + k, none⟩ := by simp [Addr.add]
        rw [h2, h3] at h1
        exact h1
      exact Or.inr ⟨bk, off, rfl, lt_of_cell (hcell' 0 (by omega)), hcell'⟩
theorem rec_flat : flatB Try.prog 8 54 = true := by kernel_rfl
theorem take_one_cell {cs : List Value} {o : Nat} {c : Value} (h : (cs.drop o).take 1 = [c]) : cs[o]? = some c := by
  have : ((cs.drop o).take 1)[0]? = some c := by rw [h]; rfl
  rw [List.getElem?_take_of_lt (by omega), List.getElem?_drop] at this
  exact this
theorem open_rec_cells {fuel : Nat} {cs : List Value} {x : DataW H × List MemPlace} (h : DataW.trod enc Try.prog W base spare held fuel 54 cs = some x) :
    ∃ r : Rc, r.cells = cs ∧ RcOk r ∧ IsInts W r.mo r.members := by
  have h1 := trod_one 8 fuel _ cs x rec_flat h
  obtain ⟨xs, n, _, _, hl, hxl, hf⟩ := DataW.trod_struct Try.underlying54 h
  have hC : Try.prog.cellsOf 54 = 36 := by kernel_rfl
  have ci : Try.prog.cellsOf 3 = 1 := by kernel_rfl
  have cs1 : Try.prog.cellsOf 29 = 1 := by kernel_rfl
  have cst : Try.prog.cellsOf 9 = 1 := by kernel_rfl
  rw [hC] at hl
  have hx : ∀ i, i < 15 → ∃ y, xs[i]? = some y := fun i hi => ⟨_, List.getElem?_eq_getElem (by rw [hxl]; exact hi)⟩
  have g0 : DataW.trod enc Try.prog W base spare held n 3 ((cs.drop 0).take (Try.prog.cellsOf 3)) = xs[0]? := hf 0 _ rfl
  have g1 : DataW.trod enc Try.prog W base spare held n 3 ((cs.drop 1).take (Try.prog.cellsOf 3)) = xs[1]? := hf 1 _ rfl
  have g5 : DataW.trod enc Try.prog W base spare held n 9 ((cs.drop 5).take (Try.prog.cellsOf 9)) = xs[5]? := hf 5 _ rfl
  have g6 : DataW.trod enc Try.prog W base spare held n 9 ((cs.drop 6).take (Try.prog.cellsOf 9)) = xs[6]? := hf 6 _ rfl
  have g8 : DataW.trod enc Try.prog W base spare held n 29 ((cs.drop 8).take (Try.prog.cellsOf 29)) = xs[8]? := hf 8 _ rfl
  obtain ⟨y0, e0⟩ := hx 0 (by omega)
  obtain ⟨y1, e1⟩ := hx 1 (by omega)
  obtain ⟨y5, e5⟩ := hx 5 (by omega)
  obtain ⟨y6, e6⟩ := hx 6 (by omega)
  obtain ⟨y8, e8⟩ := hx 8 (by omega)
  rw [e0] at g0
  rw [e1] at g1
  rw [e5] at g5
  rw [e6] at g6
  rw [e8] at g8
  rw [ci] at g0 g1
  rw [cst] at g5 g6
  rw [cs1] at g8
  obtain ⟨k, a0, -, -⟩ := DataW.trod_int Try.underlying3 g0
  obtain ⟨u, a1, -, -⟩ := DataW.trod_int Try.underlying3 g1
  obtain ⟨ta, a5, -, b5⟩ := DataW.trod_string Try.underlying9 g5
  obtain ⟨na, a6, -, b6⟩ := DataW.trod_string Try.underlying9 g6
  obtain ⟨ao, zs, cap, a8, hi, hz⟩ := open_ints_cells g8
  exact ⟨⟨k, u, ta, na, zs, ao, cap, cs⟩, rfl, ⟨hl, h1, take_one_cell a0, take_one_cell a1, take_one_cell a5, take_one_cell a6, take_one_cell a8, hz, b5, b6⟩, hi⟩
theorem open_rec {r : Reach} {b0 : Nat} (hv : Value.okWide Try.prog W r b0 54 v) (h : DataW.Trod enc Try.prog W base spare held 54 v d p) : ∃ x : Rc, v = .agg x.cells.toArray ∧ RcOk x ∧ IsInts W x.mo x.members := by
  obtain ⟨ca, rfl, hsz⟩ := okWide_struct Try.underlying54 hv
  obtain ⟨fuel, hf⟩ := h
  obtain ⟨x, h1, h2, h3⟩ := open_rec_cells hf
  refine ⟨x, ?_, h2, h3⟩
  rw [h1]
  simp [Value.cells]
theorem open_recs (hval : ∃ a len cap, v = .slice a len cap) (h : DataW.Trod enc Try.prog W 0 spare held 23 v d p) :
    ∃ ao l cap, v = .slice ao (List.length l) cap ∧ IsRecs W ao l ∧ l.length ≤ cap ∧ l.length ≤ 9223372036854775807 ∧ ((ao = none ∧ cap = 0) ∨ ∃ ad, ao = some ad) := by
  obtain ⟨a0, len0, cap0, rfl⟩ := hval
  obtain ⟨fuel, hf⟩ := h
  have hC : Try.prog.cellsOf 54 = 36 := by kernel_rfl
  rcases open_slice Try.underlying23 hf with ⟨hcs, _⟩ | ⟨a, len, cap, m, n, D, Pl, hcs, _, hl, hm, hmm, _, hi⟩
  · have : Value.slice a0 len0 cap0 = .slice none 0 0 := by simpa [Value.cells] using hcs
    exact ⟨none, [], 0, by rw [this]; rfl, ⟨by simp, Or.inl rfl⟩, by simp, by simp, Or.inl ⟨rfl, rfl⟩⟩
  · have e : Value.slice a0 len0 cap0 = .slice (some a) len cap := by simpa [Value.cells] using hcs
    have hlm : len ≤ m := by rw [hmm]; split <;> omega
    obtain ⟨bk, off, spot⟩ := a
    have key : ∀ i, ∃ x : Rc, i < len → (RcOk x ∧ IsInts W x.mo x.members) ∧ ∀ j u, x.cells[j]? = some u → W.cell? ((⟨bk, off, spot⟩ : Addr).add (i * 36 + j)) = some u := by
      intro i
      by_cases hil : i < len
      · obtain ⟨cs', hc, ht⟩ := hi i (by omega)
        rw [hC] at hc
        obtain ⟨x, hx, hok, hin⟩ := open_rec_cells ht
        obtain ⟨_, hcl, hat⟩ := World.cells?_some hc
        refine ⟨x, fun _ => ⟨⟨hok, hin⟩, fun j u hu => ?_⟩⟩
        rw [hx] at hu
        have hj : j < 36 := by have := (List.getElem?_eq_some_iff.1 hu).1; rw [← hx, hok.len] at this; exact this
        rw [← Go.Deep.add_add, hat j hj]
        exact hu
      · exact ⟨⟨0, 0, ⟨#[]⟩, ⟨#[]⟩, [], none, 0, []⟩, fun hh => absurd hh hil⟩
    obtain ⟨f, hff⟩ := Classical.axiomOfChoice key
    have hlen : ((List.range len).map f).length = len := by simp
    have hok : ∀ r ∈ (List.range len).map f, RcOk r ∧ IsInts W r.mo r.members := fun r hr => by
      obtain ⟨i, hi2, rfl⟩ := List.mem_map.1 hr
      exact (hff i (List.mem_range.1 hi2)).1
    refine ⟨some ⟨bk, off, spot⟩, (List.range len).map f, cap, by rw [e, hlen], ⟨hok, ?_⟩, by rw [hlen]; exact hl, by rw [hlen]; unfold maxLen at hm; omega, Or.inr ⟨_, rfl⟩⟩
    by_cases h0 : len = 0
    · exact Or.inl (by rw [h0]; rfl)
    · obtain ⟨ok0, hh0⟩ := hff 0 (by omega)
      have h1 := hh0 0 _ ok0.1.c0
      have hspot : spot = none := by simpa [Addr.add] using World.cell?_spot h1
      subst hspot
      have hadd : ∀ k, (⟨bk, off, none⟩ : Addr).add k = ⟨bk, off + k, none⟩ := fun k => by simp [Addr.add]
      refine Or.inr ⟨bk, off, rfl, ?_, fun k hk => ?_⟩
      · rw [hadd] at h1
        exact lt_of_cell h1
      · have hk' : k < len := by simpa using hk
        have e2 : ((List.range len).map f)[k] = f k := by simp
        rw [e2]
        intro j u hu
        have h3 := (hff k hk').2 j u hu
        rw [hadd] at h3
        rw [Nat.add_assoc]
        exact h3
end

end Go.Proofs.Ytfokbcakbbdlaaa
