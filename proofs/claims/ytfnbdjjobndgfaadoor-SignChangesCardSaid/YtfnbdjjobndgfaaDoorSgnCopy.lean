/- The copy of a seal with copies of its two lists: a region that draws its order. -/
import Derived.Test.YtfnbdjjobndgfaaDoorEnt
import Derived.Test.YtfnbdjjobndgfaaDoorOpenSl
import Derived.Test.YtfnbdjjobndgfaaDoorOnly
import Derived.Test.YtfnbdjjobndgfaaDoorTwo
import Derived.Maps.AppendAt
namespace Go.Proofs.YtfnbdjjobndgfaaDoor
open Go.RowKit

theorem cp_mem {l : List ByteArray} : ∀ u ∈ l.map Value.string, u.oneCell' = true := fun u hu => by
  obtain ⟨b, _, rfl⟩ := List.mem_map.1 hu
  rfl
theorem cp_at {w : World} {bk off : Nat} {l : List ByteArray} (h : ∀ k, (hk : k < l.length) → w.cell? ⟨bk, off + k, none⟩ = some (.string l[k])) : ∀ (i : Nat) (u : Value), (l.map Value.string)[i]? = some u → w.cell? ((⟨bk, off, none⟩ : Addr).add i) = some u := by
  intro i u hu
  have hi : i < l.length := by
    have := (List.getElem?_eq_some_iff.1 hu).1
    rwa [List.length_map] at this
  have e : (⟨bk, off, none⟩ : Addr).add i = ⟨bk, off + i, none⟩ := by unfold Addr.add; split <;> simp_all
  rw [e, h i hi]
  rw [List.getElem?_map, List.getElem?_eq_getElem hi] at hu
  exact hu
theorem info_txt : (Tryd.prog.info? 9).map (fun i => (i.zero, i.size, i.bytes)) = some (some (.string ⟨#[]⟩), 1, 16) := by kernel_rfl
/-- A list of texts copied onto a new, empty one. -/
theorem run_copy_strs {w : World} (ty : TypeId) (g0 : Nat) (hg0 : Whole w g0 9 #[]) (base : Nat) (hb : base ≤ g0) (l : List ByteArray) (n : Nat) (hn : n = l.length) (h1 : n ≤ 100000) (ao : Option Addr) (c : Nat) (hl : IsStrs w ao l) :
    ∃ g cap w', (Builtin.append_ #[22, 22] ty #[.slice (some ⟨g0, 0, none⟩) 0 0, .slice ao n c]).run Tryd.prog w = .ok (.slice (some ⟨g, 0, none⟩) n cap) w' ∧
      w'.ownsRow base 9 1 (.slice (some ⟨g, 0, none⟩) n cap) n (l.map .string) ∧ Below w.heap.size w w' ∧ (n = 0 ∨ g = w.heap.size) := by
  obtain ⟨i1, hi1, hy0, hy1, hy2⟩ := info_parts info_txt
  have hlt := hg0.lt
  have hown : w.ownsRow base 9 1 (.slice (some ⟨g0, 0, none⟩) 0 0) 0 [] := ⟨by simp, .inr ⟨g0, 0, #[], rfl, hb, hg0, Nat.le_refl _, Nat.zero_le _, by simp, by simp⟩⟩
  by_cases h0 : l = []
  · subst h0
    simp only [List.length_nil] at hn
    subst hn
    refine ⟨g0, 0, w, ?_, hown, Below.refl _ _, Or.inl rfl⟩
    cases ao <;> simp [Builtin.append_, run_underlying Tryd.underlying22, sizeOf, typeInfo, hi1, Builtin.lenOf, Builtin.firstCells, storeCells, loadCells, loadCellsFrom]
  · rcases hl with h | ⟨bk, off, rfl, _, hk⟩
    · exact absurd h h0
    have hpos : 0 < n := by rw [hn]; exact List.length_pos_iff.2 h0
    have holds : ∀ j u, ([] : List Value)[j]? = some u → w.cell? ((⟨g0, 0, none⟩ : Addr).add j) = some u := fun j u hu => by simp at hu
    have hr := run_append_grow (P := Tryd.prog) w 22 ty 9 i1 (.string ⟨#[]⟩) Tryd.underlying22 hi1 hy0 ⟨g0, 0, none⟩ 0 0 [] (by simp) holds ⟨bk, off, none⟩ n c (l.map .string) (by rw [hn, hy1]; simp) (cp_at hk) (by omega) (by omega) (growslice_fits (by omega) (by rw [hy2]; omega))
    refine ⟨w.heap.size, grownCap w n 0 9, _, by simpa using hr, ?_, (Below.refl _ _).drew.alloc (Nat.le_refl _) _, Or.inr rfl⟩
    have hge := grownCap_ge w n 0 9
    have hcm : grownCap w n 0 9 ≤ maxLen := grownCap_le_maxLen w n 0 9 (by unfold maxLen; omega)
    refine ⟨by rw [hn]; simp, .inr ⟨w.heap.size, grownCap w n 0 9, _, rfl, by omega, heap_alloc_new w.drew _, hge, hcm, ?_, ?_⟩⟩
    · simp only [Array.size_append, List.size_toArray, size_zeroCells, List.length_map, Nat.zero_add]
      simp [Value.cells, ← hn]
      omega
    · simp [hn]

section
variable (d : Option Tmp) (t : TypeId) (pos : String) (af : Array Edge) (g : Option (Nat × Bool)) (A : Act) (w : World)
theorem run_field_seal (x : Tmp) (b k : Nat) (hk : k = 0 ∨ k = 1 ∨ k = 2) (hx : A.eval (.tmp x) = .pointer (some ⟨b, 0, none⟩)) :
    (execOp A.eval ⟨d, .fieldAddr 24 (.tmp x) k, t, pos, af, g⟩).run Tryd.prog w = .ok (.value (.pointer (some ⟨b, k, none⟩))) w := by
  unfold execOp
  simp only [hx]
  rcases hk with rfl | rfl | rfl <;> go_simp
theorem run_load_int (x : Tmp) (p : Addr) (v : Value) (hx : A.eval (.tmp x) = .pointer (some p)) (hc : w.cell? p = some v) :
    (execOp A.eval ⟨d, .load 3 (.tmp x), t, pos, af, g⟩).run Tryd.prog w = .ok (.value v) w := by
  unfold execOp
  simp only [hx]
  go_simp
theorem run_load_strs (x : Tmp) (p : Addr) (v : Value) (hx : A.eval (.tmp x) = .pointer (some p)) (hc : w.cell? p = some v) :
    (execOp A.eval ⟨d, .load 22 (.tmp x), t, pos, af, g⟩).run Tryd.prog w = .ok (.value v) w := by
  unfold execOp
  simp only [hx]
  go_simp
theorem run_empty_strs : (execOp A.eval ⟨d, .buildSlice 22 0 #[], t, pos, af, g⟩).run Tryd.prog w = .ok (.value (.slice (some ⟨w.heap.size, 0, none⟩) 0 0)) (w.alloc (.cells #[] 9)) := by
  simp [go_sem]
theorem run_build_seal (x y z : Tmp) (i : Int) (p1 p2 : Option Addr) (n1 n2 c1 c2 : Nat) (hx : A.eval (.tmp x) = .int .i64 i) (hy : A.eval (.tmp y) = .slice p1 n1 c1) (hz : A.eval (.tmp z) = .slice p2 n2 c2) :
    (execOp A.eval ⟨d, .build 24 #[(0, .tmp x), (1, .tmp y), (2, .tmp z)], t, pos, af, g⟩).run Tryd.prog w = .ok (.value (.agg #[.int .i64 i, .slice p1 n1 c1, .slice p2 n2 c2])) w := by
  unfold execOp
  simp only [hx, hy, hz, List.map_toArray, List.map_cons, List.map_nil]
  go_simp
theorem run_alloc_seal : (execOp A.eval ⟨d, .alloc 24, t, pos, af, g⟩).run Tryd.prog w = .ok (.value (.pointer (some ⟨w.heap.size, 0, none⟩))) (w.alloc (.cells #[.int .i64 0, .slice none 0 0, .slice none 0 0] 24)) := by
  simp [go_sem]
theorem run_store_seal (x y : Tmp) (b : Nat) (i : Int) (p1 p2 : Option Addr) (n1 n2 c1 c2 : Nat) (z0 z1 z2 : Value) (hx : A.eval (.tmp x) = .pointer (some ⟨b, 0, none⟩)) (hy : A.eval (.tmp y) = .agg #[.int .i64 i, .slice p1 n1 c1, .slice p2 n2 c2]) (hw : Whole w b 24 #[z0, z1, z2]) :
    ∃ w', (execOp A.eval ⟨d, .store 24 (.tmp x) (.tmp y), t, pos, af, g⟩).run Tryd.prog w = .ok .skip w' ∧ Whole w' b 24 #[.int .i64 i, .slice p1 n1 c1, .slice p2 n2 c2] ∧ w'.heap.size = w.heap.size ∧ (∀ B, B ≤ b → Below B w w') ∧ ∀ g' t' cs, g' ≠ b → Whole w g' t' cs → Whole w' g' t' cs := by
  have h0 : w.cell? ⟨b, 0, none⟩ = some z0 := hw.cell 0
  have h1 : w.cell? ⟨b, 1, none⟩ = some z1 := hw.cell 1
  have h2 : w.cell? ⟨b, 2, none⟩ = some z2 := hw.cell 2
  have f0 := hw.frozen 0
  have f1 := hw.frozen 1
  have f2 := hw.frozen 2
  refine ⟨((w.setCell ⟨b, 0, none⟩ (.int .i64 i)).setCell ⟨b, 1, none⟩ (.slice p1 n1 c1)).setCell ⟨b, 2, none⟩ (.slice p2 n2 c2), ?_, ?_, by simp, fun B hB => (((Below.refl _ _).setCell hB _).setCell hB _).setCell hB _, fun g' t' cs hne h => ((h.far (p := ⟨b, 0, none⟩) hne _).far (p := ⟨b, 1, none⟩) hne _).far (p := ⟨b, 2, none⟩) hne _⟩
  · unfold execOp
    simp only [hx, hy]
    go_simp
  · exact ((hw.set 0 _).set 1 _).set 2 _
end

/-- A row of the call's own that has these texts. -/
def RowAt (W w : World) (g n c : Nat) (l : List ByteArray) : Prop := w.ownsRow W.heap.size 9 1 (.slice (some ⟨g, 0, none⟩) n c) n (l.map .string)
/-- What is below is kept, and so are all rows of texts. -/
def Keeps (W w w' : World) : Prop := Below W.heap.size w w' ∧ ∀ g cs, Whole w g 9 cs → Whole w' g 9 cs
theorem Keeps.of_below {W w w' : World} (hW : W.heap.size ≤ w.heap.size) (h : Below w.heap.size w w') : Keeps W w w' := ⟨h.mono hW, fun g cs hg => (h.block g hg.lt).trans hg⟩
theorem RowAt.keeps {W w w' : World} {g n c : Nat} {l : List ByteArray} (h : RowAt W w g n c l) (hk : Keeps W w w') : RowAt W w' g n c l := by
  rcases h with ⟨h1, h2 | ⟨g', cap, cur, hv, hB, hc, rest⟩⟩
  · exact ⟨h1, Or.inl h2⟩
  · exact ⟨h1, Or.inr ⟨g', cap, cur, hv, hB, hk.2 g' cur hc, rest⟩⟩
theorem RowAt.lt {W w : World} {g n c : Nat} {l : List ByteArray} (h : RowAt W w g n c l) : W.heap.size ≤ g ∧ g < w.heap.size := World.ownsRow.lt h g rfl

section
variable (W : World) (B : Nat) (i : Int) (so po : Option Addr) (c1 c2 h : Nat) (sig path : List ByteArray)
def EmptyAt (v : Value) (w : World) : Prop := ∃ g, v = .slice (some ⟨g, 0, none⟩) 0 0 ∧ W.heap.size ≤ g ∧ Whole w g 9 #[]
def CopyAt (n : Nat) (l : List ByteArray) (v : Value) (w : World) : Prop := ∃ g c, v = .slice (some ⟨g, 0, none⟩) n c ∧ RowAt W w g n c l
def BadAt (g1 d1 g2 d2 : Nat) (w : World) : Prop := RowAt W w g1 18 d1 sig ∧ RowAt W w g2 h d2 path ∧ (h ≠ 0 → g1 ≠ g2)
def ChF : Nat → Value → World → Prop
  | 0, v, _ => v = .pointer (some ⟨B, 0, none⟩)
  | 1, v, _ => v = .int .i64 i
  | 2, v, w => EmptyAt W v w
  | 3, v, _ => v = .pointer (some ⟨B, 1, none⟩)
  | 4, v, _ => v = .slice so 18 c1
  | 5, v, w => CopyAt W 18 sig v w
  | 6, v, w => EmptyAt W v w
  | 7, v, _ => v = .pointer (some ⟨B, 2, none⟩)
  | 8, v, _ => v = .slice po h c2
  | 9, v, w => CopyAt W h path v w
  | 10, v, w => ∃ g1 d1 g2 d2, v = .agg #[.int .i64 i, .slice (some ⟨g1, 0, none⟩) 18 d1, .slice (some ⟨g2, 0, none⟩) h d2] ∧ BadAt W h sig path g1 d1 g2 d2 w
  | _, _, _ => True
structure ChT (e : Ent) (w : World) : Prop where
  below : Below W.heap.size W w
  each : ∀ j v, e j = some v → ChF W B i so po c1 c2 h sig path j v w
  apart : ∀ g1 d1 g2 d2, e 5 = some (.slice (some ⟨g1, 0, none⟩) 18 d1) → e 9 = some (.slice (some ⟨g2, 0, none⟩) h d2) → h ≠ 0 → g1 ≠ g2
  cell : ∀ v, e 11 = some v → ∃ b, v = .pointer (some ⟨b, 0, none⟩) ∧ W.heap.size ≤ b ∧ (e 12 = none → Whole w b 24 #[.int .i64 0, .slice none 0 0, .slice none 0 0]) ∧
    (∀ u, e 12 = some u → ∃ g1 d1 g2 d2, Whole w b 24 #[.int .i64 i, .slice (some ⟨g1, 0, none⟩) 18 d1, .slice (some ⟨g2, 0, none⟩) h d2] ∧ BadAt W h sig path g1 d1 g2 d2 w)
  after : ∀ u, e 12 = some u → ∃ v, e 11 = some v
end

section
variable {W : World} {B : Nat} {i : Int} {so po : Option Addr} {c1 c2 h : Nat} {sig path : List ByteArray} {w w' : World} {e : Ent}
theorem BadAt.keeps {g1 d1 g2 d2 : Nat} (hb : BadAt W h sig path g1 d1 g2 d2 w) (hk : Keeps W w w') : BadAt W h sig path g1 d1 g2 d2 w' := ⟨hb.1.keeps hk, hb.2.1.keeps hk, hb.2.2⟩
theorem ChF.keeps {j : Nat} {v : Value} (hf : ChF W B i so po c1 c2 h sig path j v w) (hk : Keeps W w w') : ChF W B i so po c1 c2 h sig path j v w' := by
  unfold ChF at hf ⊢
  split <;> simp only at hf ⊢ <;> first
    | exact hf
    | (obtain ⟨g, h1, h2, h3⟩ := hf; exact ⟨g, h1, h2, hk.2 _ _ h3⟩)
    | (obtain ⟨g, c, h1, h2⟩ := hf; exact ⟨g, c, h1, h2.keeps hk⟩)
    | (obtain ⟨g1, d1, g2, d2, h1, h2⟩ := hf; exact ⟨g1, d1, g2, d2, h1, h2.keeps hk⟩)
theorem ChT.start : ChT W B i so po c1 c2 h sig path (fun _ => none) W.drew := by
  refine ⟨(Below.refl _ _).drew, fun j v hj => ?_, fun _ _ _ _ h5 => ?_, fun v hv => ?_, fun v hv => ?_⟩
  · cases hj
  · cases h5
  · cases hv
  · cases hv
/-- One operation later that is neither the new cell nor the store into it. -/
theorem ChT.step (hT : ChT W B i so po c1 c2 h sig path e w) {j : Nat} (hj : j < 11) {v : Value} (hw : Below w.heap.size w w') (hv : ChF W B i so po c1 c2 h sig path j v w')
    (h5 : j = 5 → ∀ g1 d1 g2 d2, v = .slice (some ⟨g1, 0, none⟩) 18 d1 → e 9 = some (.slice (some ⟨g2, 0, none⟩) h d2) → h ≠ 0 → g1 ≠ g2)
    (h9 : j = 9 → ∀ g1 d1 g2 d2, e 5 = some (.slice (some ⟨g1, 0, none⟩) 18 d1) → v = .slice (some ⟨g2, 0, none⟩) h d2 → h ≠ 0 → g1 ≠ g2) : ChT W B i so po c1 c2 h sig path (entUpd e j v) w' := by
  have hk : Keeps W w w' := Keeps.of_below hT.below.size hw
  refine ⟨hT.below.trans (hw.mono hT.below.size), fun k u hu => ?_, fun g1 d1 g2 d2 e5 e9 hh => ?_, fun u hu => ?_, fun u hu => by rw [entUpd_other e v (by omega)] at hu ⊢; exact hT.after u hu⟩
  · by_cases hkj : k = j
    · subst hkj
      rw [entUpd_same] at hu
      obtain rfl := Option.some.inj hu
      exact hv
    · rw [entUpd_other e v hkj] at hu
      exact (hT.each k u hu).keeps hk
  · by_cases h5j : j = 5
    · subst h5j
      rw [entUpd_same] at e5
      rw [entUpd_other e v (by decide)] at e9
      exact h5 rfl g1 d1 g2 d2 (Option.some.inj e5) e9 hh
    · rw [entUpd_other e v (fun x => h5j x.symm)] at e5
      by_cases h9j : j = 9
      · subst h9j
        rw [entUpd_same] at e9
        exact h9 rfl g1 d1 g2 d2 e5 (Option.some.inj e9) hh
      · rw [entUpd_other e v (fun x => h9j x.symm)] at e9
        exact hT.apart g1 d1 g2 d2 e5 e9 hh
  · rw [entUpd_other e v (by omega)] at hu
    obtain ⟨b, q1, q2, q3, q4⟩ := hT.cell u hu
    refine ⟨b, q1, q2, fun h12 => ?_, fun x h12 => ?_⟩
    · rw [entUpd_other e v (by omega)] at h12
      exact (hw.block b (q3 h12).lt).trans (q3 h12)
    · rw [entUpd_other e v (by omega)] at h12
      obtain ⟨g1, d1, g2, d2, r1, r2⟩ := q4 x h12
      exact ⟨g1, d1, g2, d2, (hw.block b r1.lt).trans r1, r2.keeps hk⟩
/-- The new cell. -/
theorem ChT.alloc (hT : ChT W B i so po c1 c2 h sig path e w) (h12 : e 12 = none) : ChT W B i so po c1 c2 h sig path (entUpd e 11 (.pointer (some ⟨w.heap.size, 0, none⟩))) (w.alloc (.cells #[.int .i64 0, .slice none 0 0, .slice none 0 0] 24)) := by
  have hb : Below w.heap.size w (w.alloc (.cells #[.int .i64 0, .slice none 0 0, .slice none 0 0] 24)) := (Below.refl _ _).alloc (Nat.le_refl _) _
  have hk := Keeps.of_below hT.below.size hb
  refine ⟨hT.below.trans (hb.mono hT.below.size), fun k u hu => ?_, fun g1 d1 g2 d2 e5 e9 hh => ?_, fun u hu => ?_, fun u _ => ⟨_, entUpd_same e 11 _⟩⟩
  · by_cases hkj : k = 11
    · subst hkj
      trivial
    · rw [entUpd_other e _ hkj] at hu
      exact (hT.each k u hu).keeps hk
  · rw [entUpd_other e _ (by decide)] at e5 e9
    exact hT.apart g1 d1 g2 d2 e5 e9 hh
  · rw [entUpd_same] at hu
    obtain rfl := Option.some.inj hu
    refine ⟨_, rfl, hT.below.size, fun _ => Whole.new _ _ _, fun x hx => ?_⟩
    rw [entUpd_other e _ (by decide), h12] at hx
    cases hx
/-- The store into it. -/
theorem ChT.store (hT : ChT W B i so po c1 c2 h sig path e w) (h12 : e 12 = none) {b g1 d1 g2 d2 : Nat} (h11 : e 11 = some (.pointer (some ⟨b, 0, none⟩))) (hbad : BadAt W h sig path g1 d1 g2 d2 w)
    (r1 : Whole w' b 24 #[.int .i64 i, .slice (some ⟨g1, 0, none⟩) 18 d1, .slice (some ⟨g2, 0, none⟩) h d2]) (r2 : ∀ B, B ≤ b → Below B w w') (r3 : ∀ g' t' cs, g' ≠ b → Whole w g' t' cs → Whole w' g' t' cs) (v : Value) : ChT W B i so po c1 c2 h sig path (entUpd e 12 v) w' := by
  obtain ⟨b', q1, q2, q3, _⟩ := hT.cell _ h11
  simp only [Value.pointer.injEq, Option.some.injEq, Addr.mk.injEq, and_true] at q1
  subst q1
  have hk : Keeps W w w' := ⟨r2 _ q2, fun g cs hg => r3 g _ cs (fun hx => by subst hx; exact absurd rfl (hg.apart (q3 h12) (by decide))) hg⟩
  refine ⟨hT.below.trans hk.1, fun k u hu => ?_, fun g1 d1 g2 d2 e5 e9 hh => ?_, fun u hu => ?_, fun u _ => ⟨_, (entUpd_other e v (by decide)).trans h11⟩⟩
  · by_cases hkj : k = 12
    · subst hkj
      trivial
    · rw [entUpd_other e _ hkj] at hu
      exact (hT.each k u hu).keeps hk
  · rw [entUpd_other e _ (by decide)] at e5 e9
    exact hT.apart g1 d1 g2 d2 e5 e9 hh
  · rw [entUpd_other e _ (by decide), h11] at hu
    obtain rfl := Option.some.inj hu
    refine ⟨b, rfl, q2, fun hx => ?_, fun x _ => ⟨g1, d1, g2, d2, r1, hbad.keeps hk⟩⟩
    rw [entUpd_same] at hx
    cases hx
end

theorem wp_of_run {P : Program} {o : Oper} {a : Act} {w w' : World} {v : Value} {K : Act → World → Prop} {Q : Exit → Act → World → Prop} (hr : (execOp a.eval o).run P w = .ok (.value v) w') (h : K (a.put o.dst v) w') : o.wp P a w K Q := by
  unfold Oper.wp; rw [hr]; exact h
theorem wp_of_skip {P : Program} {o : Oper} {a : Act} {w w' : World} {K : Act → World → Prop} {Q : Exit → Act → World → Prop} (hr : (execOp a.eval o).run P w = .ok .skip w') (h : K (a.put o.dst undef) w') : o.wp P a w K Q := by
  unfold Oper.wp; rw [hr]; exact h
theorem run_append_op (d : Option Tmp) (t : TypeId) (pos : String) (af : Array Edge) (g : Option (Nat × Bool)) (A : Act) (w w' : World) (x y : Tmp) (v1 v2 v : Value) (hx : A.eval (.tmp x) = v1) (hy : A.eval (.tmp y) = v2)
    (hr : (Builtin.append_ #[22, 22] t #[v1, v2]).run Tryd.prog w = .ok v w') :
    (execOp A.eval ⟨d, .call { callee := .builtin .append, args := #[.tmp x, .tmp y], argTypes := #[22, 22] }, t, pos, af, g⟩).run Tryd.prog w = .ok (.value v) w' := by
  unfold execOp
  simp only [resolve, invoke, builtin, Sem.run_bind, Sem.run_pure, Result.andThen_ok, List.map_toArray, List.map_cons, List.map_nil, hx, hy, hr]

end Go.Proofs.YtfnbdjjobndgfaaDoor
