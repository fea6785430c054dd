/- The walk of classes: the table of the bytes' classes. -/
import Derived.Test.YtbnofoncapaabaaGreatDoorLexRd
import Derived.Laws.Tables
import Derived.Deep.WholeRow
namespace Go.Proofs.YtbnofoncapaabaaGreatDoor
open Go.RowKit

namespace Lex
def zeros : Array Value := (List.replicate 256 (Value.int .i64 0)).toArray
def put (a : Array Value) (i : Nat) (v : Nat) : Array Value := a.setIfInBounds i (.int .i64 v)
def st1 (k : Nat) : Array Value := (List.range k).foldl (fun a j => put (put a (97 + j) 1) (65 + j) 1) zeros
def st2 (k : Nat) : Array Value := (List.range k).foldl (fun a j => put a (48 + j) 2) (st1 26)
def putAll (a : Array Value) (l : List UInt8) (v : Nat) : Array Value := l.foldl (fun a c => put a c.toNat v) a
def gapsT : List UInt8 := [32, 9, 10]
def symsT : List UInt8 := [59, 44, 46, 58, 40, 41, 123, 125, 91, 93, 61, 60, 47, 62, 43, 45, 42]
def table : Array Value := putAll (putAll (put (st2 10) 95 4) gapsT 8) symsT 16
theorem table_is : table = clsL.toArray := by kernel_rfl
theorem put_size (a : Array Value) (i v : Nat) : (put a i v).size = a.size := by unfold put; simp
theorem zeros_size : zeros.size = 256 := by unfold zeros; rw [List.size_toArray, List.length_replicate]
theorem st1_zero : st1 0 = zeros := by unfold st1; rw [List.range_zero, List.foldl_nil]
theorem st2_zero : st2 0 = st1 26 := by unfold st2; rw [List.range_zero, List.foldl_nil]
theorem st1_succ (k : Nat) : st1 (k + 1) = put (put (st1 k) (97 + k) 1) (65 + k) 1 := by unfold st1; rw [List.range_succ, List.foldl_append]; rfl
theorem st2_succ (k : Nat) : st2 (k + 1) = put (st2 k) (48 + k) 2 := by unfold st2; rw [List.range_succ, List.foldl_append]; rfl
theorem st1_size (k : Nat) : (st1 k).size = 256 := by
  induction k with
  | zero => rw [st1_zero, zeros_size]
  | succ k ih => rw [st1_succ, put_size, put_size, ih]
theorem st2_size (k : Nat) : (st2 k).size = 256 := by
  induction k with
  | zero => rw [st2_zero, st1_size]
  | succ k ih => rw [st2_succ, put_size, ih]
theorem putAll_size (l : List UInt8) (v : Nat) : ∀ a : Array Value, (putAll a l v).size = a.size := by
  induction l with
  | nil => intro a; rfl
  | cons c l ih => intro a; show (putAll (put a c.toNat v) l v).size = _; rw [ih, put_size]
theorem putAll_snoc (a : Array Value) (l : List UInt8) (c : UInt8) (v : Nat) : putAll a (l ++ [c]) v = put (putAll a l v) c.toNat v := by unfold putAll; rw [List.foldl_append]; rfl
end Lex

set_option maxRecDepth 100000 in
set_option maxHeartbeats 2000000 in
theorem set_any (S : ByteArray) (hS : S.size ≤ 1000) (m : Nat) (B : Nat) (a : Array Value) (ha : a.size = 256) (W : World) (h : Whole W B 74 a) :
    Calls Tryz.prog 42 #[.string S, .int .i64 m, .pointer (some ⟨B, 0, none⟩)] W fun e w' => e = .returned (.tuple #[]) ∧ Whole w' B 74 (Lex.putAll a S.data.toList m) ∧ (∀ C, C ≤ B → Below C W w') ∧ (∀ g t cs, g ≠ B → Whole W g t cs → Whole w' g t cs) ∧ w'.heap.size = W.heap.size := by
  have H0 := Lib.hid h
  clear h
  go_enter Tryz.func42, Tryz.ntmps42
  go_wp2_with fail
  go_loopw [8] (fun i wr => ∃ k : Nat, k ≤ S.size ∧ i = .int .i64 k ∧ Hid (Whole wr B 74 (Lex.putAll a (S.data.toList.take k) m) ∧ (∀ C, C ≤ B → Below C W wr) ∧ (∀ g t cs, g ≠ B → Whole W g t cs → Whole wr g t cs) ∧ wr.heap.size = W.heap.size)) (fun i _ => S.size - (intOf i).toNat)
  case atStart => exact ⟨0, Nat.zero_le _, by go_num, Lib.hid ⟨H0.out, fun C _ => Below.refl _ _, fun _ _ _ _ h => h, rfl⟩⟩
  case round =>
    obtain ⟨k, hk, rfl, HR⟩ := hrel
    by_cases hkS : k < S.size
    · have hd : decide ((k : Int) < (S.size : Int)) = true := decide_eq_true (by omega)
      have hb0 : (0 : Int) ≤ k := by omega
      have hb1 : (k : Int) < (S.size : Int) := by omega
      obtain ⟨c, Hc⟩ : ∃ c, Hid (c = S[k]) := ⟨_, Lib.hid rfl⟩
      have hTc : S[k] = c := Hc.out.symm
      have hc1 : (c.toNat : Int) < 256 := by have := c.toNat_lt; omega
      have hc0 : (0 : Int) ≤ c.toNat := by omega
      have hcl : c.toNat < (Lex.putAll a (S.data.toList.take k) m).size := by rw [Lex.putAll_size, ha]; omega
      have kc : wr.cell? ⟨B, c.toNat, none⟩ = some ((Lex.putAll a (S.data.toList.take k) m)[c.toNat]'hcl) := by rw [HR.out.1.cell, Array.getElem?_eq_getElem hcl]
      have kf : wr.frozen? ⟨B, c.toNat, none⟩ = false := HR.out.1.frozen _
      have HN : Hid (Whole (wr.setCell ⟨B, c.toNat, none⟩ (.int .i64 m)) B 74 (Lex.putAll a (S.data.toList.take (k + 1)) m) ∧ (∀ C, C ≤ B → Below C W (wr.setCell ⟨B, c.toNat, none⟩ (.int .i64 m))) ∧ (∀ g t cs, g ≠ B → Whole W g t cs → Whole (wr.setCell ⟨B, c.toNat, none⟩ (.int .i64 m)) g t cs) ∧ (wr.setCell ⟨B, c.toNat, none⟩ (.int .i64 m)).heap.size = W.heap.size) := Lib.hid ⟨by
        have e : S.data.toList.take (k + 1) = S.data.toList.take k ++ [c] := by
          rw [List.take_add_one, List.getElem?_eq_getElem (show k < S.data.toList.length from hkS)]
          rw [← hTc]; rfl
        rw [e, Lex.putAll_snoc]
        exact HR.out.1.set _ _, fun C hC => (HR.out.2.1 C hC).setCell (p := ⟨B, c.toNat, none⟩) hC _, fun g t cs hg hw => (HR.out.2.2.1 g t cs hg hw).far (p := ⟨B, c.toNat, none⟩) hg _, by simp [HR.out.2.2.2]⟩
      go_wp2_with fail
      go_round
      case rel => exact ⟨k + 1, by omega, by go_num, HN⟩
      case measure => simp [intOf]; omega
    · have hd : decide ((k : Int) < (S.size : Int)) = false := decide_eq_false (by omega)
      have HE : Hid (S.data.toList.take k = S.data.toList) := Lib.hid (List.take_of_length_le (show S.size ≤ k by omega))
      go_wp2_with fail
      go_end0
      rw [HE.out] at HR
      exact ⟨rfl, HR.out⟩

/-- A whole array of classes, made, read and stored. -/
theorem info_table : (Tryz.prog.info? 74).map (fun i => (i.zero, i.size)) = some (some (.agg Lex.zeros), 256) := by kernel_rfl
theorem zeros_eq : Tryz.zeroCells74 = Lex.zeros := by kernel_rfl
theorem load_table {w : World} {B : Nat} {a : Array Value} (h : Whole w B 74 a) (ha : a.size = 256) : (Instr.loadAt 74 (.pointer (some ⟨B, 0, none⟩))).run Tryz.prog w = .ok (.agg a) w := by
  simp only [Instr.loadAt, Instr.sureAddr, Sem.run_bind, Sem.run_pure, Result.andThen]
  exact run_loadVar_row _ _ _ 74 a (0, 0) _ h Tryz.underlying74 rfl (by rw [ha]; exact (zero_of_info info_table).2)
theorem cells_table {w : World} {A : Nat} {a0 : Array Value} (h : Whole w A 74 a0) (h0 : a0.size = 256) (l : List Value) (hl : l.length = 256) (h1 : l.toArray.all (·.oneCell') = true) : (storeCells ⟨A, 0, none⟩ l).run Tryz.prog w = .ok () (w.setRow A l.toArray) := by
  have := run_storeCells_from (P := Tryz.prog) A 74 l 0 a0 w h (by omega) (fun v hv => (Array.all_eq_true_iff_forall_mem.1 h1) v (by simpa using hv))
  simpa using this

theorem opwp_run {P : Program} {o : Oper} {a : Act} {w w' : World} {v : Value} {K : Act → World → Prop} {Q : Exit → Act → World → Prop} (hr : (execOp a.eval o).run P w = .ok (.value v) w') (h : K (a.put o.dst v) w') : o.wp P a w K Q := by
  unfold Oper.wp; rw [hr]; exact h
theorem opwp_skip {P : Program} {o : Oper} {a : Act} {w w' : World} {K : Act → World → Prop} {Q : Exit → Act → World → Prop} (hr : (execOp a.eval o).run P w = .ok .skip w') (h : K (a.put o.dst undef) w') : o.wp P a w K Q := by
  unfold Oper.wp; rw [hr]; exact h
theorem exec_load {P : Program} {ty : TypeId} {x : Operand} {v pv : Value} {w w' : World} (d : Option Tmp) (t : TypeId) (pos : String) (af : Array Edge) (g : Option (Nat × Bool)) (A : Act) (hx : A.eval x = pv) (h : (Instr.loadAt ty pv).run P w = .ok v w') :
    (execOp A.eval ⟨d, .load ty x, t, pos, af, g⟩).run P w = .ok (.value v) w' := by
  unfold execOp
  simp only [hx, Sem.run_bind, h, Result.andThen_ok]
  rfl
theorem exec_store {P : Program} {ty : TypeId} {x y : Operand} {v pv : Value} {w w' : World} (d : Option Tmp) (t : TypeId) (pos : String) (af : Array Edge) (g : Option (Nat × Bool)) (A : Act) (hx : A.eval x = pv) (hy : A.eval y = v) (h : (Instr.storeAt ty pv v).run P w = .ok () w') :
    (execOp A.eval ⟨d, .store ty x y, t, pos, af, g⟩).run P w = .ok .skip w' := by
  unfold execOp
  simp only [hx, hy, Sem.run_bind, h, Result.andThen_ok]
  rfl
theorem results_one_cell {fn : Func} {s : Tmp} {ty : TypeId} (h : fn.results = #[.cell s ty]) (tmps : Array Value) (P : Program) (w : World) (A : Nat) (v : Value) (h2 : tmps.getD s undef = .pointer (some ⟨A, 0, none⟩)) (hl : (loadVar ty ⟨A, 0, none⟩).run P w = .ok v w) :
    (results fn tmps).run P w = .ok v w := by
  simp only [results, h, List.mapM_toArray, List.mapM_cons, List.mapM_nil, h2, asAddr, Sem.run_bind, Sem.run_pure, Sem.run_map, Result.andThen, hl]
  rfl
theorem loadVar_table {w : World} {B : Nat} {a : Array Value} (h : Whole w B 74 a) (ha : a.size = 256) : (loadVar 74 ⟨B, 0, none⟩).run Tryz.prog w = .ok (.agg a) w :=
  run_loadVar_row _ _ _ 74 a (0, 0) _ h Tryz.underlying74 rfl (by rw [ha]; exact (zero_of_info info_table).2)
theorem Lex.cls_one : (Lex.clsL.toArray).all (·.oneCell') = true := by kernel_rfl
theorem set_row {w : World} {A : Nat} {t : TypeId} {a0 : Array Value} (h : Whole w A t a0) (a : Array Value) : Whole (w.setRow A a) A t a := by
  unfold Whole at h ⊢
  simp [World.setRow, Array.getElem?_modify, h]
theorem below_row {W w : World} {A B : Nat} (h : Below B W w) (hB : B ≤ A) (a : Array Value) : Below B W (w.setRow A a) :=
  ⟨h.os, h.tape, h.output, by have := h.size; simpa [World.setRow] using this, fun k hk => by
    rw [← h.block k hk]
    simp [World.setRow, Array.getElem?_modify, show ¬ A = k by omega]⟩

set_option maxRecDepth 100000 in
set_option maxHeartbeats 2000000 in
theorem classes_any (W : World) : Calls Tryz.prog 32 #[] W fun e w' => e = .returned (.agg Lex.clsL.toArray) ∧ Below W.heap.size W w' := by
  go_enter Tryz.func32, Tryz.ntmps32
  go_wp2_with fail
  rw [zeros_eq]
  obtain ⟨A, HAq⟩ : ∃ x, Hid (x = W.heap.size) := ⟨_, Lib.hid rfl⟩
  obtain ⟨B, HBq⟩ : ∃ x, Hid (x = W.heap.size + 1) := ⟨_, Lib.hid rfl⟩
  obtain ⟨W1, HW1⟩ : ∃ x, Hid (x = (W.alloc (.cells Lex.zeros 74)).alloc (.cells Lex.zeros 74)) := ⟨_, Lib.hid rfl⟩
  have HB1 : Hid (Below W.heap.size W W1) := Lib.hid (by rw [HW1.out]; exact ((Below.refl _ _).alloc (Nat.le_refl _) _).alloc (by rw [size_alloc]; omega) _)
  have HT1 : Hid (Whole W1 A 74 Lex.zeros ∧ Whole W1 B 74 Lex.zeros) := Lib.hid (by
    rw [HW1.out, HAq.out, HBq.out]
    refine ⟨(Whole.new W _ _).alloc _, ?_⟩
    have := Whole.new (W.alloc (.cells Lex.zeros 74)) 74 Lex.zeros
    rwa [size_alloc] at this)
  have hAB : A ≠ B := by rw [HAq.out, HBq.out]; omega
  have hWB : W.heap.size ≤ B := by rw [HBq.out]; omega
  rw [← HW1.out, ← HBq.out, ← HAq.out]
  clear HW1
  go_loopw [5] (fun i wr => ∃ k : Nat, k ≤ 26 ∧ i = .int .i64 k ∧ Hid (Whole wr B 74 (Lex.st1 k) ∧ Whole wr A 74 Lex.zeros ∧ Below W.heap.size W wr)) (fun i _ => 26 - (intOf i).toNat)
  case atStart => exact ⟨0, Nat.zero_le _, by go_num, Lib.hid ⟨by rw [Lex.st1_zero]; exact HT1.out.2, HT1.out.1, HB1.out⟩⟩
  case round =>
    obtain ⟨k, hk, rfl, HR⟩ := hrel
    by_cases hkS : k < 26
    · have hd : decide ((k : Int) < 26) = true := decide_eq_true (by omega)
      have hb0 : (0 : Int) ≤ k := by omega
      have hb1 : (k : Int) < 26 := by omega
      have hz := Lex.st1_size k
      have kc : wr.cell? ⟨B, 97 + k, none⟩ = some ((Lex.st1 k)[97 + k]'(by omega)) := by rw [HR.out.1.cell, Array.getElem?_eq_getElem]
      have kf : wr.frozen? ⟨B, 97 + k, none⟩ = false := HR.out.1.frozen _
      have HX := Lib.hid (HR.out.1.set (97 + k) (.int .i64 1))
      have kd : wr.cell? ⟨B, 65 + k, none⟩ = some ((Lex.st1 k)[65 + k]'(by omega)) := by rw [HR.out.1.cell, Array.getElem?_eq_getElem]
      have kg : wr.frozen? ⟨B, 65 + k, none⟩ = false := HR.out.1.frozen _
      have HN : Hid (Whole ((wr.setCell ⟨B, 97 + k, none⟩ (.int .i64 1)).setCell ⟨B, 65 + k, none⟩ (.int .i64 1)) B 74 (Lex.st1 (k + 1)) ∧ Whole ((wr.setCell ⟨B, 97 + k, none⟩ (.int .i64 1)).setCell ⟨B, 65 + k, none⟩ (.int .i64 1)) A 74 Lex.zeros ∧ Below W.heap.size W ((wr.setCell ⟨B, 97 + k, none⟩ (.int .i64 1)).setCell ⟨B, 65 + k, none⟩ (.int .i64 1))) := Lib.hid ⟨by
        rw [Lex.st1_succ]; exact HX.out.set _ _, (HR.out.2.1.far (p := ⟨B, 97 + k, none⟩) hAB _).far (p := ⟨B, 65 + k, none⟩) hAB _, (HR.out.2.2.setCell (p := ⟨B, 97 + k, none⟩) hWB _).setCell (p := ⟨B, 65 + k, none⟩) hWB _⟩
      go_wp2_with fail
      go_round
      case rel => exact ⟨k + 1, by omega, by go_num, HN⟩
      case measure => simp [intOf]; omega
    · have hk26 : k = 26 := by omega
      subst hk26
      have hd : decide ((26 : Int) < 26) = false := rfl
      go_wp2_with fail
      clear hd
      go_loopw [15] (fun i wr => ∃ k : Nat, k ≤ 10 ∧ i = .int .i64 k ∧ Hid (Whole wr B 74 (Lex.st2 k) ∧ Whole wr A 74 Lex.zeros ∧ Below W.heap.size W wr)) (fun i _ => 10 - (intOf i).toNat)
      case atStart => exact ⟨0, Nat.zero_le _, by go_num, Lib.hid ⟨by rw [Lex.st2_zero]; exact HR.out.1, HR.out.2.1, HR.out.2.2⟩⟩
      case round =>
        clear HR
        obtain ⟨k, hk, rfl, HR⟩ := hrel
        by_cases hkS : k < 10
        · have hd : decide ((k : Int) < 10) = true := decide_eq_true (by omega)
          have hb0 : (0 : Int) ≤ k := by omega
          have hb1 : (k : Int) < 10 := by omega
          have hz := Lex.st2_size k
          have kc : wr.cell? ⟨B, 48 + k, none⟩ = some ((Lex.st2 k)[48 + k]'(by omega)) := by rw [HR.out.1.cell, Array.getElem?_eq_getElem]
          have kf : wr.frozen? ⟨B, 48 + k, none⟩ = false := HR.out.1.frozen _
          have HN : Hid (Whole (wr.setCell ⟨B, 48 + k, none⟩ (.int .i64 2)) B 74 (Lex.st2 (k + 1)) ∧ Whole (wr.setCell ⟨B, 48 + k, none⟩ (.int .i64 2)) A 74 Lex.zeros ∧ Below W.heap.size W (wr.setCell ⟨B, 48 + k, none⟩ (.int .i64 2))) := Lib.hid ⟨by
            rw [Lex.st2_succ]; exact HR.out.1.set _ _, HR.out.2.1.far (p := ⟨B, 48 + k, none⟩) hAB _, HR.out.2.2.setCell (p := ⟨B, 48 + k, none⟩) hWB _⟩
          go_wp2_with fail
          go_round
          case rel => exact ⟨k + 1, by omega, by go_num, HN⟩
          case measure => simp [intOf]; omega
        · have hk10 : k = 10 := by omega
          subst hk10
          have hd : decide ((10 : Int) < 10) = false := rfl
          have hz := Lex.st2_size 10
          have kc : wr.cell? ⟨B, 95, none⟩ = some ((Lex.st2 10)[95]'(by omega)) := by rw [HR.out.1.cell, Array.getElem?_eq_getElem]
          have kf : wr.frozen? ⟨B, 95, none⟩ = false := HR.out.1.frozen _
          go_wp2_with fail
          refine (set_any _ (by decide) 8 B (Lex.put (Lex.st2 10) 95 4) (by rw [Lex.put_size]; exact hz) _ (HR.out.1.set 95 _)).mono ?_
          rintro e w3 ⟨rfl, h1, h2, h3, h4⟩
          have H3 := Lib.hid (And.intro h1 (And.intro (h3 _ _ _ hAB (HR.out.2.1.far (p := ⟨B, 95, none⟩) hAB _)) ((HR.out.2.2.setCell (p := ⟨B, 95, none⟩) hWB _).trans (h2 _ hWB))))
          clear h1 h2 h3 h4 kc kf hz
          go_wp2_with fail
          refine (set_any _ (by decide) 16 B _ (by rw [Lex.putAll_size, Lex.put_size]; exact Lex.st2_size 10) _ H3.out.1).mono ?_
          rintro e w4 ⟨rfl, h1, h2, h3, h4⟩
          have ht : Whole w4 B 74 Lex.table := h1
          rw [Lex.table_is] at ht
          have H4 := Lib.hid (And.intro ht (And.intro (h3 _ _ _ hAB H3.out.2.1) (H3.out.2.2.trans (h2 _ hWB))))
          have hsz : (Lex.clsL.toArray).size = 256 := by rw [List.size_toArray, Lex.clsL_len]
          have hld := load_table ht hsz
          have HF := Lib.hid (set_row H4.out.2.1 (Lex.clsL.toArray))
          have HBF := Lib.hid (below_row (H4.out.2.2) (show W.heap.size ≤ A by rw [HAq.out]; exact Nat.le_refl _) (Lex.clsL.toArray))
          have HLd := Lib.hid hld
          have HSc := Lib.hid (cells_table H4.out.2.1 Lex.zeros_size Lex.clsL Lex.clsL_len Lex.cls_one)
          have HSz := Lib.hid hsz
          clear h1 h2 h3 h4 ht hld hsz
          go_wp2_with fail
          refine opwp_run (exec_load _ _ _ _ _ _ rfl HLd.out) ?_
          have hsc := HSc.out
          go_wp2_with fail
          refine bodyPost_ret (results_one_cell rfl _ _ _ A _ rfl (loadVar_table HF.out HSz.out)) rfl ?_
          exact ⟨rfl, HBF.out⟩

end Go.Proofs.YtbnofoncapaabaaGreatDoor
