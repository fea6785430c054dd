/- A list of structs copied: append([]T{}, l...). -/
import Derived.Test.YtfkejnnbfneieaaGreatDoorMem
import Derived.ArgAppend
import Derived.Deep.WholeRow
namespace Go.Proofs.YtfkejnnbfneieaaGreatDoor
open Go.RowKit

theorem infoP {t : TypeId} {z : Value} {s b : Nat} (h : (Tryz.prog.info? t).map (fun i => (i.zero, i.size, i.bytes)) = some (some z, s, b)) : ∃ i, Tryz.prog.info? t = some i ∧ i.zero = some z ∧ i.size = s ∧ i.bytes = b := by
  cases hi : Tryz.prog.info? t with
  | none => rw [hi] at h; cases h
  | some i => rw [hi] at h; simp at h; exact ⟨i, rfl, h.1, h.2.1, h.2.2⟩
/-- Cells that say what the elements of a list are. -/
structure Says {α : Type} (size : Nat) (El : World → List Value → α → Prop) (W : World) (css : List (List Value)) (l : List α) : Prop where
  len : css.length = l.length
  size : ∀ cs ∈ css, cs.length = size
  el : ∀ k (h : k < l.length) (h' : k < css.length), El W css[k] l[k]
section
variable {α : Type} {size : Nat} {El : World → List Value → α → Prop} {W W' : World} {ao : Option Addr} {l m : List α} {css dss : List (List Value)}
theorem Says.nil : Says size El W [] ([] : List α) := ⟨rfl, by simp, fun k h => by simp at h⟩
theorem Says.below (hS : ElStable El) (h : Says size El W css l) (hb : Below W.heap.size W W') : Says size El W' css l := ⟨h.len, h.size, fun k h1 h2 => hS _ _ _ _ (h.el k h1 h2) hb⟩
theorem Says.append (h : Says size El W css l) (h' : Says size El W dss m) : Says size El W (css ++ dss) (l ++ m) := by
  refine ⟨by rw [List.length_append, List.length_append, h.len, h'.len], fun cs hc => (List.mem_append.1 hc).elim (h.size cs) (h'.size cs), fun k h1 h2 => ?_⟩
  simp only [List.getElem_append, h.len]
  split
  · rename_i hk
    exact h.el k hk _
  · exact h'.el _ _ _
theorem Says.one {cs : List Value} {a : α} (hc : cs.length = size) (h : El W cs a) : Says size El W [cs] [a] := ⟨rfl, fun x hx => by rw [List.mem_singleton.1 hx]; exact hc, fun k h1 h2 => by
  have : k = 0 := by simpa using h1
  subst this; exact h⟩
theorem Says.row {t : TypeId} {B n c : Nat} (hs : Says size El W css l) (h : W.ownsRow B t size (.slice ao n c) n css.flatten) (hn : n = l.length) : IsL size El W ao l := IsL.row h hn hs.len hs.size hs.el
theorem flat_len : ∀ {css : List (List Value)}, (∀ cs ∈ css, cs.length = size) → css.flatten.length = css.length * size
  | [], _ => by simp
  | c :: css, h => by
    rw [List.flatten_cons, List.length_append, flat_len (fun cs hc => h cs (List.mem_cons_of_mem _ hc)), h c (List.mem_cons_self ..), List.length_cons, Nat.succ_mul]; omega
/-- The cells behind a list. -/
theorem IsL.says (h : IsL size El W ao l) (hz : ∀ W cs a, El W cs a → cs.length = size) (hne : l ≠ []) : ∃ bk off css, ao = some ⟨bk, off, none⟩ ∧ bk < W.heap.size ∧ Says size El W css l ∧ ∀ j u, css.flatten[j]? = some u → W.cell? ⟨bk, off + j, none⟩ = some u := by
  rcases h with h | ⟨bk, off, h1, h2, h3⟩
  · exact absurd h hne
  have key : ∀ k : Nat, ∃ cs : List Value, ∀ h : k < l.length, W.rangeAt bk (off + k * size) cs ∧ El W cs l[k] := fun k => by
    by_cases hk : k < l.length
    · obtain ⟨cs, q1, q2⟩ := h3 k hk
      exact ⟨cs, fun _ => ⟨q1, q2⟩⟩
    · exact ⟨[], fun h => absurd h hk⟩
  obtain ⟨f, hf⟩ := Classical.axiomOfChoice key
  have hs : Says size El W ((List.range l.length).map f) l := ⟨by simp, fun cs hc => by
    obtain ⟨i, hi, rfl⟩ := List.mem_map.1 hc
    exact hz _ _ _ (hf i (List.mem_range.1 hi)).2, fun k hk hk' => by
    have : ((List.range l.length).map f)[k] = f k := by simp
    rw [this]; exact (hf k hk).2⟩
  refine ⟨bk, off, _, h1, h2, hs, fun j u hu => ?_⟩
  have hj : j < l.length * size := by
    have := (List.getElem?_eq_some_iff.1 hu).1
    rw [flat_len hs.size, hs.len] at this
    exact this
  have hpos : 0 < size := by rcases Nat.eq_zero_or_pos size with e | e; (rw [e] at hj; omega); exact e
  have hk : j / size < l.length := Nat.div_lt_of_lt_mul (by rw [Nat.mul_comm]; exact hj)
  have hk' : j / size < ((List.range l.length).map f).length := by simpa using hk
  have hm : j % size < size := Nat.mod_lt _ hpos
  have e : j = j / size * size + j % size := by rw [Nat.mul_comm]; exact (Nat.div_add_mod j size).symm
  have h4 := flat_at hk' (j % size) hs.size hm
  rw [← e, hu] at h4
  have h5 : ((List.range l.length).map f)[j / size] = f (j / size) := by simp
  rw [h5] at h4
  have h6 := (hf _ hk).1 (j % size) u h4.symm
  rw [Nat.add_assoc, ← e] at h6
  exact h6
end
theorem owns_baseM {w : World} {b b' : Nat} {e : TypeId} {size n : Nat} {v : Value} {xs : List Value} (h : w.ownsRow b e size v n xs) (hb : b' ≤ b) : w.ownsRow b' e size v n xs := by
  refine ⟨h.1, ?_⟩
  rcases h.2 with h | ⟨g, cap, cur, hv, hB, rest⟩
  · exact Or.inl h
  · exact Or.inr ⟨g, cap, cur, hv, Nat.le_trans hb hB, rest⟩
theorem owns_shapeM {w : World} {b : Nat} {e : TypeId} {size n : Nat} {v : Value} {xs : List Value} (h : w.ownsRow b e size v n xs) : ∃ ao cap, v = .slice ao n cap := by
  rcases h.2 with ⟨rfl, rfl⟩ | ⟨g, cap, cur, rfl, _⟩
  · exact ⟨none, 0, rfl⟩
  · exact ⟨_, _, rfl⟩
section
variable {α : Type} {size bytes : Nat} {El : World → List Value → α → Prop} {t te : TypeId} {i : TypeInfo} {z : Value}
theorem run_copy_list {w : World} (ty : TypeId) (ht : Tryz.prog.underlying t = some (.slice te)) (hi : Tryz.prog.info? te = some i) (h3 : i.zero = some z) (h4 : i.size = size) (h5 : i.bytes = bytes) (h6 : z.cells.size = size) (h7 : 0 < size)
    (hS : ElStable El) (hz : ∀ W cs a, El W cs a → cs.length = size) (g0 : Nat) (hg0 : Whole w g0 te #[]) (base : Nat) (hb : base ≤ g0) (l : List α) (n : Nat) (hn : n = l.length) (hm : n ≤ maxLen) (h1 : n * bytes ≤ 140737488355328) (ao : Option Addr) (c : Nat) (hl : IsL size El w ao l) :
    ∃ v w' css, (Builtin.append_ #[t, t] ty #[.slice (some ⟨g0, 0, none⟩) 0 0, .slice ao n c]).run Tryz.prog w = .ok v w' ∧ w'.ownsRow base te size v n css.flatten ∧ Says size El w' css l ∧ Below w.heap.size w w' := by
  have hlt := hg0.lt
  have hown : w.ownsRow base te size (.slice (some ⟨g0, 0, none⟩) 0 0) 0 [] := ⟨by simp, .inr ⟨g0, 0, #[], rfl, hb, hg0, Nat.le_refl _, Nat.zero_le _, by simp, by simp⟩⟩
  by_cases h0 : l = []
  · subst h0
    simp only [List.length_nil] at hn
    subst hn
    refine ⟨.slice (some ⟨g0, 0, none⟩) 0 0, w, [], ?_, hown, Says.nil, Below.refl _ _⟩
    cases ao <;> simp [Builtin.append_, run_underlying ht, sizeOf, typeInfo, hi, Builtin.lenOf, Builtin.firstCells, storeCells, loadCells, loadCellsFrom]
  · obtain ⟨bk, off, css, rfl, hbk, hs, hc⟩ := hl.says hz h0
    have hpos : 0 < n := by rw [hn]; exact List.length_pos_iff.2 h0
    obtain ⟨v', w', hr, r1, r2⟩ := run_append_arg_grows (P := Tryz.prog) w t ty te i z size bytes ht hi h3 h4 h5 h6 h7 ⟨g0, 0, none⟩ 0 0 [] (by simp) (fun j u hu => by simp at hu) ⟨bk, off, none⟩ n c css.flatten (by rw [flat_len hs.size, hs.len, hn]) (fun j u hu => by
      have e : (⟨bk, off, none⟩ : Addr).add j = ⟨bk, off + j, none⟩ := by simp [Addr.add]
      rw [e]; exact hc j u hu) (by omega) (by omega) (by rw [Nat.zero_add]; exact h1)
    rw [Nat.zero_add, List.nil_append] at r1
    have hb2 : Below w.heap.size w w' := (Below.refl _ _).grown r2 (Nat.le_refl _) (fun k e => by cases e)
    exact ⟨v', w', css, hr, owns_baseM r1 (by omega), hs.below hS hb2, hb2⟩
theorem wpList_copy_list {w : World} {ops : Array Oper} {rest : List Oper} {o : Oper} {a : Act} {Q : Exit → Act → World → Prop} (hgd : o.guard = none) (s x : Operand)
    (ho : o.op = .call { callee := .builtin .append, args := #[s, x], argTypes := #[t, t] }) (ht : Tryz.prog.underlying t = some (.slice te)) (hi : Tryz.prog.info? te = some i) (h3 : i.zero = some z) (h4 : i.size = size) (h5 : i.bytes = bytes) (h6 : z.cells.size = size) (h7 : 0 < size)
    (hS : ElStable El) (hz : ∀ W cs a, El W cs a → cs.length = size) (g0 : Nat) (hs : a.eval s = .slice (some ⟨g0, 0, none⟩) 0 0) (hg0 : Whole w g0 te #[]) (base : Nat) (hb : base ≤ g0) (l : List α) (n : Nat) (hn : n = l.length) (hm : n ≤ maxLen) (h1 : n * bytes ≤ 140737488355328) (ao : Option Addr) (c : Nat) (hx : a.eval x = .slice ao n c) (hl : IsL size El w ao l)
    (h : ∀ v' w' css, w'.ownsRow base te size v' n css.flatten → Says size El w' css l → Below w.heap.size w w' → wpList Tryz.prog ops Q rest (a.put o.dst v') w') : wpList Tryz.prog ops Q (o :: rest) a w := by
  obtain ⟨v, w', css, hr, r1, r2, r3⟩ := run_copy_list o.type ht hi h3 h4 h5 h6 h7 hS hz g0 hg0 base hb l n hn hm h1 ao c hl
  refine wpList_plain hgd fun K hK => ?_
  unfold Oper.wp
  simp [execOp, ho, resolve, invoke, builtin, hs, hx, hr, Result.andThen]
  exact hK _ _ (h v w' css r1 r2 r3)
end

/-! ### A struct stored into a block of the call's own; read out of one -/
theorem wpList_store_whole {P : Program} {ops : Array Oper} {rest : List Oper} {op : Oper} {a : Act} {w : World} {Q : Exit → Act → World → Prop} (hgd : op.guard = none) (ty : TypeId) (x y : Operand) (ho : op.op = .store ty x y)
    (b : Nat) (t : TypeId) (c c' : Array Value) (hx : a.eval x = .pointer (some ⟨b, 0, none⟩)) (hy : a.eval y = .agg c') (hw : Whole w b t c) (hi : (P.info? ty).map (·.size) = some c'.size) (hs : c.size = c'.size) (h1 : c'.all (·.oneCell') = true)
    (h : ∀ w', Whole w' b t c' → w.grownBy w' (some b) → w'.heap.size = w.heap.size → wpList P ops Q rest (a.put op.dst undef) w') : wpList P ops Q (op :: rest) a w :=
  wpList_plain hgd fun _ hK => by
    unfold Oper.wp execOp
    simp only [ho, hx, hy, Instr.storeAt, Instr.sureAddr, Sem.run_bind, Sem.run_pure, Result.andThen_ok, run_storeVar_row w b t ty c c' hw hi hs h1]
    refine hK _ _ (h _ (setRow_heap w b c c' t (0, 0) hw) ⟨rfl, rfl, rfl, by simp [World.setRow], fun k _ hne => ?_⟩ (by simp [World.setRow]))
    simp only [World.setRow]
    rw [Array.getElem?_modify, if_neg (fun e => hne (by rw [e]))]
theorem wpList_store_new {P : Program} {ops : Array Oper} {rest : List Oper} {op : Oper} {a : Act} {w : World} {Q : Exit → Act → World → Prop} (hgd : op.guard = none) (ty : TypeId) (x y : Operand) (ho : op.op = .store ty x y)
    (c c' : Array Value) (hx : a.eval x = .pointer (some ⟨w.heap.size, 0, none⟩)) (hy : a.eval y = .agg c') (hi : (P.info? ty).map (·.size) = some c'.size) (hs : c.size = c'.size) (h1 : c'.all (·.oneCell') = true)
    (h : wpList P ops Q rest (a.put op.dst undef) (w.alloc (.cells c' ty))) : wpList P ops Q (op :: rest) a (w.alloc (.cells c ty)) :=
  wpList_plain hgd fun _ hK => by
    unfold Oper.wp execOp
    simp only [ho, hx, hy, Instr.storeAt, Instr.sureAddr, Sem.run_bind, Sem.run_pure, Result.andThen_ok, run_storeVar_new w ty c c' hi hs h1]
    exact hK _ _ h
theorem wpList_build {P : Program} {ops : Array Oper} {rest : List Oper} {op : Oper} {a : Act} {w w' : World} {v : Value} {Q : Exit → Act → World → Prop} (hgd : op.guard = none) (t : TypeId) (parts : Array (Nat × Operand)) (ho : op.op = .build t parts)
    (vs : Array (Nat × Value)) (hv : parts.map (fun x => (x.1, a.eval x.2)) = vs) (hrun : (Instr.build t vs).run P w = .ok v w')
    (h : wpList P ops Q rest (a.put op.dst v) w') : wpList P ops Q (op :: rest) a w :=
  wpList_plain hgd fun _ hK => by
    have e : (parts.map fun (x : Nat × Operand) => match x with | (i, y) => (i, a.eval y)) = vs := hv
    unfold Oper.wp execOp
    simp only [ho, e, Sem.run_bind, hrun, Result.andThen, Sem.run_pure]
    exact hK _ _ h
theorem wpList_slice {P : Program} {ops : Array Oper} {rest : List Oper} {op : Oper} {a : Act} {w w' : World} {v : Value} {Q : Exit → Act → World → Prop} (hgd : op.guard = none) (t : TypeId) (n : Nat) (parts : Array (Nat × Operand)) (ho : op.op = .buildSlice t n parts)
    (vs : Array (Nat × Value)) (hv : parts.map (fun x => (x.1, a.eval x.2)) = vs) (hrun : (Instr.buildSlice t n vs).run P w = .ok v w')
    (h : wpList P ops Q rest (a.put op.dst v) w') : wpList P ops Q (op :: rest) a w :=
  wpList_plain hgd fun _ hK => by
    have e : (parts.map fun (x : Nat × Operand) => match x with | (i, y) => (i, a.eval y)) = vs := hv
    unfold Oper.wp execOp
    simp only [ho, e, Sem.run_bind, hrun, Result.andThen, Sem.run_pure]
    exact hK _ _ h
theorem wpList_build3 {P : Program} {ops : Array Oper} {rest : List Oper} {op : Oper} {a : Act} {w w' : World} {v u1 u2 u3 : Value} {Q : Exit → Act → World → Prop} (hgd : op.guard = none) (t : TypeId) (i j k : Nat) (x y z : Operand) (ho : op.op = .build t #[(i, x), (j, y), (k, z)])
    (hx : a.eval x = u1) (hy : a.eval y = u2) (hz : a.eval z = u3) (hrun : (Instr.build t #[(i, u1), (j, u2), (k, u3)]).run P w = .ok v w')
    (h : wpList P ops Q rest (a.put op.dst v) w') : wpList P ops Q (op :: rest) a w :=
  wpList_build hgd t _ ho #[(i, u1), (j, u2), (k, u3)] (by simp [hx, hy, hz]) hrun h
theorem wpList_slice1 {P : Program} {ops : Array Oper} {rest : List Oper} {op : Oper} {a : Act} {w w' : World} {v u : Value} {Q : Exit → Act → World → Prop} (hgd : op.guard = none) (t : TypeId) (n : Nat) (x : Operand) (ho : op.op = .buildSlice t n #[(0, x)])
    (hx : a.eval x = u) (hrun : (Instr.buildSlice t n #[(0, u)]).run P w = .ok v w') (h : wpList P ops Q rest (a.put op.dst v) w') : wpList P ops Q (op :: rest) a w :=
  wpList_slice hgd t n _ ho #[(0, u)] (by simp [hx]) hrun h
theorem Whole.range {w : World} {b : Nat} {t : TypeId} {cs : List Value} (hw : Whole w b t cs.toArray) : w.rangeAt b 0 cs := fun j v hv => by rw [Nat.zero_add, hw.cell]; simpa using hv
theorem Whole.newAt {w : World} {g : Nat} (cs : Array Value) (t : TypeId) (h : g = w.heap.size) : Whole (w.alloc (.cells cs t)) g t cs := by rw [h]; exact Whole.new _ _ _
theorem whole_belowM {w w' : World} {g : Nat} {t : TypeId} {cs : Array Value} (h : Whole w g t cs) (hb : Below w.heap.size w w') : Whole w' g t cs := (hb.block g h.lt).trans h
theorem whole_grownM {w w' : World} {g : Nat} {t : TypeId} {cs : Array Value} {row : Option Nat} (h : Whole w g t cs) (hg : w.grownBy w' row) (hne : row ≠ some g) : Whole w' g t cs := (hg.block g h.lt (fun e => hne e.symm)).trans h
theorem owns_belowM {w w' : World} {b : Nat} {e : TypeId} {size k : Nat} {v : Value} {xs : List Value} (h : w.ownsRow b e size v k xs) (hb : Below w.heap.size w w') : w'.ownsRow b e size v k xs := h.kept ⟨hb.os, hb.tape, hb.output, hb.size, fun j hj _ => hb.block j hj⟩ (Classical.em _)
theorem owns_wholeM {W : World} {base : Nat} {e t : TypeId} {size k : Nat} {v : Value} {xs : List Value} {g : Nat} {cs : Array Value} (h : W.ownsRow base e size v k xs) (hg : Whole W g t cs) (hne : e ≠ t) : v.ownBlock ≠ some g := by
  rcases h.2 with ⟨rfl, _⟩ | ⟨g', cap, cur, rfl, _, hh, _⟩
  · simp [Value.ownBlock]
  · intro he
    have e1 : g' = g := by simpa [Value.ownBlock] using he
    subst e1
    have h1 : W.heap[g']? = some (.cells cs t (0, 0)) := hg
    rw [hh] at h1
    injection h1 with h1
    injection h1 with _ h2 _
    exact hne h2
/-- A row of one's own stays where a block of another type is written. -/
theorem owns_other {w w' : World} {base : Nat} {e t : TypeId} {size k : Nat} {v : Value} {xs : List Value} {g : Nat} {cs : Array Value} (h : w.ownsRow base e size v k xs) (hg : Whole w g t cs) (hne : e ≠ t) (hw : w.grownBy w' (some g)) : w'.ownsRow base e size v k xs :=
  h.kept hw (Or.inr (owns_wholeM h hg hne))
/-! ### Results -/
theorem results_one {P : Program} {fn : Func} {k : Nat} {T : TypeId} {dsc : TypeDesc} (h : fn.results = #[.cell k T]) (hu : P.underlying T = some dsc) (hd : dsc.isRow = true) (tmps : Array Value) (w : World) (A : Nat) (cs : List Value) (hi : (P.info? T).map (·.size) = some cs.length) (hw : Whole w A T cs.toArray) (h4 : tmps.getD k undef = .pointer (some ⟨A, 0, none⟩)) :
    (results fn tmps).run P w = .ok (.agg cs.toArray) w := by
  have hld := run_loadVar_mid (P := P) w A 0 T cs _ hw.range hu hd hi
  simp only [results, h, List.mapM_toArray, List.mapM_cons, List.mapM_nil, h4]
  simp [asAddr, hld]
theorem results_pair {P : Program} {fn : Func} {k j : Nat} {T : TypeId} {dsc : TypeDesc} (h : fn.results = #[.cell k T, .tmp j]) (hu : P.underlying T = some dsc) (hd : dsc.isRow = true) (tmps : Array Value) (w : World) (A : Nat) (cs : List Value) (hi : (P.info? T).map (·.size) = some cs.length) (hw : Whole w A T cs.toArray) (h4 : tmps.getD k undef = .pointer (some ⟨A, 0, none⟩)) :
    (results fn tmps).run P w = .ok (.tuple #[.agg cs.toArray, tmps.getD j undef]) w := by
  have hld := run_loadVar_mid (P := P) w A 0 T cs _ hw.range hu hd hi
  simp only [results, h, List.mapM_toArray, List.mapM_cons, List.mapM_nil, h4]
  simp [asAddr, hld, Result.andThen]
end Go.Proofs.YtfkejnnbfneieaaGreatDoor
