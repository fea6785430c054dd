/- A range over an iterator that writes a block of its own between two rounds. -/
import Derived.Test.YtfkejnnbfneieaaGreatDoorOnly
import Derived.RangeFuncNested
import Derived.RangeFuncLeaves
import Derived.Test.YtfkejnnbfneieaaGreatDoorLexTok
import Derived.Laws.Tables
import Derived.Deep.WholeRow
import Derived.RangeFuncCalls
import Derived.Shelf.Abstract
import Derived.Shelf.RegionOpen
import Derived.OwnWalkIn
import Derived.TacticsInMore
import Derived.LoopNIn
import Derived.LoopIn
import Derived.Test.YtfkejnnbfneieaaGreatDoorHeldIn
import Derived.Deep.AppendLies
import Derived.Test.YtfkejnnbfneieaaGreatDoorLexMath
namespace Go.Proofs.YtfkejnnbfneieaaGreatDoor
open Go.RowKit

/-- A block from B on that is no row of cells: a loop's record, or its list of deferred calls. -/
def Book (B : Nat) (W : World) (k : Nat) : Prop := B ≤ k ∧ ∃ o, W.heap[k]? = some o ∧ o.isCells = false
/-- What may happen to a caller's memory without its notice: the books, and the iterator's own block. -/
def Steady {α : Type} (B b : Nat) (I : α → World → Prop) : Prop := (∀ s W W', I s W → Only (Book B W) W W' → I s W') ∧ ∀ s W W', I s W → Only (fun x => x = b) W W' → I s W'

theorem only_put (W : World) (l : Nat) (o : Obj) {F : Nat → Prop} (h : F l) : Only F W (W.putObj l o) :=
  ⟨rfl, rfl, rfl, by rw [World.putObj_size]; exact Nat.le_refl _, fun k _ hf => World.putObj_heap_other (fun e => hf (e ▸ h))⟩
theorem only_more (W : World) (o : Obj) (F : Nat → Prop) : Only F W (W.alloc o) := ⟨rfl, rfl, rfl, by rw [size_alloc]; omega, fun k hk _ => Below.heap_alloc W o k hk⟩

section
variable {α : Type} {F : Fence} {n : Nat} {P : Program}
/-- The contract of an iterator that writes block b. -/
def SeqMut (F : Fence) (n : Nat) (P : Program) (b : Nat) (g : Nat) (lb : Array Value) (encs : α → Array Value) (Kp : World → World → Prop) (S Sp : List α → Prop) (w : World) : Prop :=
  ∀ (l : Nat) (J Jx : List α → World → Prop) (W : World), Below w.heap.size w W → (∀ s A B, J s A → Only (fun x => x = b) A B → J s B) → (∀ s A B, Jx s A → Only (fun x => x = b) A B → Jx s B) →
    (∀ pre x A, J pre A → YieldAt F (n - 1) P l (encs x) A fun e B => (e = .returned (.bool true) ∧ J (pre ++ [x]) B ∧ Kp A B) ∨ (e = .returned (.bool false) ∧ Jx (pre ++ [x]) B)) →
    J [] W →
    CallsIn F n P g (#[.func (.yield l) #[] #[]] ++ lb) W fun e B => (∃ v, e = .returned v) ∧ ((∃ xs, S xs ∧ J xs B) ∨ (∃ pre, Sp pre ∧ Jx pre B))

theorem wpIn_range_mut {g : Operand} {ps : Array Tmp} {assign body : Code} {Q : Exit → Act → World → Prop} {a : Act} {w : World} {b : Nat} (hbw : b < w.heap.size)
    (hro : F.round = none) (h1 : 1 ≤ n) {gf : Nat} {lb : Array Value} (hg : a.eval g = .func (.func gf) #[] lb) (hFg : F.fn gf) (eg : ∀ args w, (callFunc gf args).run P w = .ok (.enter gf args) w)
    {encs : α → Array Value} {Kp : World → World → Prop} {S Sp : List α → Prop} (hseq : SeqMut F (n - 1) P b gf lb encs Kp S Sp w)
    (hKt : ∀ {A B C : World}, Kp A B → Kp B C → Kp A C) (hKb : ∀ (W : World) (l : Nat) (o : Obj), w.heap.size ≤ l → Kp W (W.putObj l o)) (hps : ∀ x, (encs x).size = ps.size)
    (I : List α → World → Prop) (Ix : Code → List α → World → Prop) (hI : Steady w.heap.size b I) (hIx : ∀ c, Steady w.heap.size b (Ix c)) (h0 : I [] w)
    (hround : ∀ (l : Nat) (pre : List α) (x : α) (W : World), I pre W → w.heap.size ≤ l → Book w.heap.size W l →
      assign.wpIn (F.inRound l) (n - 1 - 1) P (Exit.then (fun A W1 => KeepsFrom w.heap.size W W1 ∧ ∀ o, body.wpIn (F.inRound l) (n - 1 - 1) P (ownPostG w.heap.size (fun _ W3 => Kp W W3) I Ix (pre ++ [x]) (W1.putObj l o)) A (W1.putObj l o)) (fun _ _ _ => False)) { tmps := (ps.zip (encs x)).foldl (fun t (p, v) => t.setIfInBounds p v) a.tmps, defers := [] } W)
    (hdone : ∀ (D : Nat) (xs : List α) (W : World), w.heap.size ≤ D → S xs → I xs W → W.heap[D]? = some (.deferred (some [])) → Q .normal { a with defers := { target := .collected D, args := #[] } :: a.defers } W)
    (hstop : ∀ (D : Nat) (c : Code) (pre : List α) (W : World), w.heap.size ≤ D → Sp pre → Ix c pre W → W.heap[D]? = some (.deferred (some [])) → c.wpIn F n P Q { a with defers := { target := .collected D, args := #[] } :: a.defers } W) :
    (Code.rangeFunc g ps assign body).wpIn F n P Q a w := by
  refine wpIn_rangeFunc fun fn hfn => ?_
  rw [hro]
  obtain ⟨N, hN⟩ : ∃ N, N = w.heap.size := ⟨_, rfl⟩
  obtain ⟨rec, hrec⟩ : ∃ rec : LoopState → Option Code → Loop, rec = fun st pe => { state := st, pending := pe, fn, tmps := a.tmps, params := ps, assign, body, defers := N } := ⟨_, rfl⟩
  obtain ⟨W1, hW1⟩ : ∃ W1, W1 = (w.alloc (.deferred (some []))).alloc (.loop (rec .ready none)) := ⟨_, rfl⟩
  have hbel : Below w.heap.size w W1 := by rw [hW1]; exact ((Below.refl _ _).alloc (Nat.le_refl _) _).alloc (by rw [size_alloc]; omega) _
  have only0 : Only (fun _ => False) w W1 := by rw [hW1]; exact (only_more _ _ _).trans (only_more _ _ _)
  have hD : W1.heap[N]? = some (.deferred (some [])) := by
    rw [hW1, Below.heap_alloc _ _ _ (by rw [size_alloc]; omega), hN]; exact World.alloc_heap_new w _
  have hL : W1.heap[N + 1]? = some (.loop (rec .ready none)) := by
    rw [hW1]
    have := World.alloc_heap_new (w.alloc (.deferred (some []))) (.loop (rec .ready none))
    rwa [World.size_alloc, ← hN] at this
  refine ⟨N + 1, [{ target := .collected N, args := #[] }], W1, { target := .fn (.func gf) lb, args := #[.func (.yield (N + 1)) #[] #[]] }, W1, gf, #[.func (.yield (N + 1)) #[] #[]] ++ lb, W1, ?_, ?_, ?_, ?_, fun _ => h1, ?_⟩
  · rw [hW1, hrec, hN]; exact run_enterLoop_outer _ _ _ _ _
  · simp only [resolve, hg]
    simp [go_sem]
  · intro f' hf'
    simp [Target.leads] at hf'
    exact hf' ▸ hFg
  · simp [invoke, go_sem, eg]
  · have isl : ∀ (W : World) (st : LoopState) (pe : Option Code), W.heap[N + 1]? = some (.loop (rec st pe)) → Book w.heap.size W (N + 1) := fun W st pe h => ⟨by omega, _, h, rfl⟩
    refine (hseq (N + 1)
      (fun pre W => I pre W ∧ W.heap[N + 1]? = some (.loop (rec .ready none)) ∧ W.heap[N]? = some (.deferred (some [])))
      (fun pre W => ∃ c, Ix c pre W ∧ W.heap[N + 1]? = some (.loop (rec .done (some c))) ∧ W.heap[N]? = some (.deferred (some [])))
      W1 hbel ?_ ?_ ?_ ⟨hI.1 [] w W1 h0 (only0.mono fun _ h => h.elim), hL, hD⟩).mono ?_
    · rintro s A B ⟨x1, x2, x3⟩ ho
      exact ⟨hI.2 s A B x1 ho, (ho.block _ (Array.getElem?_eq_some_iff.1 x2).1 (by omega)).trans x2, (ho.block _ (Array.getElem?_eq_some_iff.1 x3).1 (by omega)).trans x3⟩
    · rintro s A B ⟨c, x1, x2, x3⟩ ho
      exact ⟨c, (hIx c).2 s A B x1 ho, (ho.block _ (Array.getElem?_eq_some_iff.1 x2).1 (by omega)).trans x2, (ho.block _ (Array.getElem?_eq_some_iff.1 x3).1 (by omega)).trans x3⟩
    · rintro pre x A ⟨x1, x2, x3⟩
      have hy := run_yield (P := P) (args := encs x) x2 (by rw [hrec]; exact hps x)
      rw [hrec] at hy
      refine ⟨fn, _, assign, body, hy, roundIn_of_wpIn hfn (wpIn_mono (hround (N + 1) pre x A x1 (by omega) (isl A _ _ x2)) fun e A1 B1 h => ?_)⟩
      cases e with
      | normal =>
        obtain ⟨hk, hb⟩ := h
        have y2 := hk.same (N + 1) _ (by omega) x2 rfl
        have y3 := hk.same N _ (by omega) x3 rfl
        refine ⟨_, run_beginRound y2 (by rw [hrec]), wpIn_mono (hb _) fun e A2 B2 hp => ?_⟩
        have ylt := (Array.getElem?_eq_some_iff.1 y2).1
        have z2 : (B1.putObj (N + 1) (.loop { rec .ready none with state := .busy })).heap[N + 1]? = some (.loop { rec .ready none with state := .busy }) := World.putObj_heap_same ylt
        have z3 : (B1.putObj (N + 1) (.loop { rec .ready none with state := .busy })).heap[N]? = some (.deferred (some [])) := (World.putObj_heap_other (by omega)).trans y3
        have close : ∀ (jump : Option Code) (C : World), KeepsFrom w.heap.size (B1.putObj (N + 1) (.loop { rec .ready none with state := .busy })) C → ∃ C', (Instr.endRound (N + 1) jump).run P C = .ok (.bool jump.isNone) C' ∧ C' = C.putObj (N + 1) (.loop (rec (if jump.isNone then .ready else .done) jump)) ∧ Book w.heap.size C (N + 1) ∧ C'.heap[N + 1]? = some (.loop (rec (if jump.isNone then .ready else .done) jump)) ∧ C'.heap[N]? = some (.deferred (some [])) := by
          intro jump C hC
          have u2 := hC.same (N + 1) _ (by omega) z2 rfl
          have u3 := hC.same N _ (by omega) z3 rfl
          have := run_endRound (P := P) jump u2
          rw [hrec] at this u2 ⊢
          exact ⟨_, this, rfl, ⟨by omega, _, u2, rfl⟩, World.putObj_heap_same (Array.getElem?_eq_some_iff.1 u2).1, (World.putObj_heap_other (by omega)).trans u3⟩
        have leave : ∀ (c : Code), KeepsFrom w.heap.size (B1.putObj (N + 1) (.loop { rec .ready none with state := .busy })) B2 ∧ Ix c (pre ++ [x]) B2 → ∃ v w', (Instr.endRound (N + 1) (some c)).run P B2 = .ok v w' ∧ ((Ending.returned v = .returned (.bool true) ∧ (I (pre ++ [x]) w' ∧ w'.heap[N + 1]? = some (.loop (rec .ready none)) ∧ w'.heap[N]? = some (.deferred (some []))) ∧ Kp A w') ∨ (Ending.returned v = .returned (.bool false) ∧ ∃ c, Ix c (pre ++ [x]) w' ∧ w'.heap[N + 1]? = some (.loop (rec .done (some c))) ∧ w'.heap[N]? = some (.deferred (some [])))) := by
          rintro c ⟨k1, k2⟩
          obtain ⟨C', r1, rfl, r3, r4, r5⟩ := close (some c) B2 k1
          exact ⟨_, _, r1, .inr ⟨rfl, c, (hIx c).1 _ _ _ k2 (only_put B2 (N + 1) _ r3), r4, r5⟩⟩
        cases e with
        | normal =>
          obtain ⟨k1, k2, k3⟩ := hp
          obtain ⟨C', r1, rfl, r3, r4, r5⟩ := close none B2 k1
          exact ⟨_, _, r1, .inl ⟨rfl, ⟨hI.1 _ _ _ k3 (only_put B2 (N + 1) _ r3), r4, r5⟩, hKt k2 (hKb _ _ _ (by omega))⟩⟩
        | ret => exact leave .ret hp
        | exit id => exact leave (.exit id) hp
        | goto t => exact leave (.goto t) hp
        | panic ch => exact hp.elim
        | outgrown => exact hp.elim
      | _ => exact h.elim
    · rintro e B ⟨⟨v, rfl⟩, h⟩
      rcases h with ⟨xs, hS, x1, x2, x3⟩ | ⟨pre, hS, c, x1, x2, x3⟩
      · have hr := run_endLoop (P := P) x2 (by rw [hrec]; simp)
        refine ⟨_, _, hr, ?_⟩
        rw [hrec]
        exact hdone N xs _ (by omega) hS (hI.1 _ _ _ x1 (only_put B (N + 1) _ (isl B _ _ x2))) ((World.putObj_heap_other (by omega)).trans x3)
      · have hr := run_endLoop (P := P) x2 (by rw [hrec]; simp)
        refine ⟨_, _, hr, ?_⟩
        rw [hrec]
        exact hstop N c pre _ (by omega) hS ((hIx c).1 _ _ _ x1 (only_put B (N + 1) _ (isl B _ _ x2))) ((World.putObj_heap_other (by omega)).trans x3)
end

end Go.Proofs.YtfkejnnbfneieaaGreatDoor

/- The walk of classes: the table of the bytes' classes. -/
namespace Go.Proofs.YtfkejnnbfneieaaGreatDoor
open Go.RowKit

namespace Lex
def zeros : Array Value := (List.replicate 256 (Value.int .i64 0)).toArray
def put (a : Array Value) (i : Nat) (v : Nat) : Array Value := a.setIfInBounds i (.int .i64 v)
def st1 (k : Nat) : Array Value := (List.range k).foldl (fun a j => put (put a (97 + j) 1) (65 + j) 1) zeros
def st2 (k : Nat) : Array Value := (List.range k).foldl (fun a j => put a (48 + j) 2) (st1 26)
def putAll (a : Array Value) (l : List UInt8) (v : Nat) : Array Value := l.foldl (fun a c => put a c.toNat v) a
def gapsT : List UInt8 := [32, 9, 10]
def symsT : List UInt8 := [59, 44, 46, 58, 40, 41, 123, 125, 91, 93, 61, 60, 47, 62, 43, 45, 42]
def table : Array Value := putAll (putAll (put (st2 10) 95 4) gapsT 8) symsT 16
theorem table_is : table = clsL.toArray := by kernel_rfl
theorem put_size (a : Array Value) (i v : Nat) : (put a i v).size = a.size := by unfold put; simp
theorem zeros_size : zeros.size = 256 := by unfold zeros; rw [List.size_toArray, List.length_replicate]
theorem st1_zero : st1 0 = zeros := by unfold st1; rw [List.range_zero, List.foldl_nil]
theorem st2_zero : st2 0 = st1 26 := by unfold st2; rw [List.range_zero, List.foldl_nil]
theorem st1_succ (k : Nat) : st1 (k + 1) = put (put (st1 k) (97 + k) 1) (65 + k) 1 := by unfold st1; rw [List.range_succ, List.foldl_append]; rfl
theorem st2_succ (k : Nat) : st2 (k + 1) = put (st2 k) (48 + k) 2 := by unfold st2; rw [List.range_succ, List.foldl_append]; rfl
theorem st1_size (k : Nat) : (st1 k).size = 256 := by
  induction k with
  | zero => rw [st1_zero, zeros_size]
  | succ k ih => rw [st1_succ, put_size, put_size, ih]
theorem st2_size (k : Nat) : (st2 k).size = 256 := by
  induction k with
  | zero => rw [st2_zero, st1_size]
  | succ k ih => rw [st2_succ, put_size, ih]
theorem putAll_size (l : List UInt8) (v : Nat) : ∀ a : Array Value, (putAll a l v).size = a.size := by
  induction l with
  | nil => intro a; rfl
  | cons c l ih => intro a; show (putAll (put a c.toNat v) l v).size = _; rw [ih, put_size]
theorem putAll_snoc (a : Array Value) (l : List UInt8) (c : UInt8) (v : Nat) : putAll a (l ++ [c]) v = put (putAll a l v) c.toNat v := by unfold putAll; rw [List.foldl_append]; rfl
end Lex

set_option maxRecDepth 100000 in
set_option maxHeartbeats 2000000 in
theorem set_any (S : ByteArray) (hS : S.size ≤ 1000) (m : Nat) (B : Nat) (a : Array Value) (ha : a.size = 256) (W : World) (h : Whole W B 91 a) :
    Calls Tryz.prog 79 #[.string S, .int .i64 m, .pointer (some ⟨B, 0, none⟩)] W fun e w' => e = .returned (.tuple #[]) ∧ Whole w' B 91 (Lex.putAll a S.data.toList m) ∧ (∀ C, C ≤ B → Below C W w') ∧ (∀ g t cs, g ≠ B → Whole W g t cs → Whole w' g t cs) ∧ w'.heap.size = W.heap.size := by
  have H0 := Lib.hid h
  clear h
  go_enter Tryz.func79, Tryz.ntmps79
  go_wp2_with fail
  go_loopw [8] (fun i wr => ∃ k : Nat, k ≤ S.size ∧ i = .int .i64 k ∧ Hid (Whole wr B 91 (Lex.putAll a (S.data.toList.take k) m) ∧ (∀ C, C ≤ B → Below C W wr) ∧ (∀ g t cs, g ≠ B → Whole W g t cs → Whole wr g t cs) ∧ wr.heap.size = W.heap.size)) (fun i _ => S.size - (intOf i).toNat)
  case atStart => exact ⟨0, Nat.zero_le _, by go_num, Lib.hid ⟨H0.out, fun C _ => Below.refl _ _, fun _ _ _ _ h => h, rfl⟩⟩
  case round =>
    obtain ⟨k, hk, rfl, HR⟩ := hrel
    by_cases hkS : k < S.size
    · have hd : decide ((k : Int) < (S.size : Int)) = true := decide_eq_true (by omega)
      have hb0 : (0 : Int) ≤ k := by omega
      have hb1 : (k : Int) < (S.size : Int) := by omega
      obtain ⟨c, Hc⟩ : ∃ c, Hid (c = S[k]) := ⟨_, Lib.hid rfl⟩
      have hTc : S[k] = c := Hc.out.symm
      have hc1 : (c.toNat : Int) < 256 := by have := c.toNat_lt; omega
      have hc0 : (0 : Int) ≤ c.toNat := by omega
      have hcl : c.toNat < (Lex.putAll a (S.data.toList.take k) m).size := by rw [Lex.putAll_size, ha]; omega
      have kc : wr.cell? ⟨B, c.toNat, none⟩ = some ((Lex.putAll a (S.data.toList.take k) m)[c.toNat]'hcl) := by rw [HR.out.1.cell, Array.getElem?_eq_getElem hcl]
      have kf : wr.frozen? ⟨B, c.toNat, none⟩ = false := HR.out.1.frozen _
      have HN : Hid (Whole (wr.setCell ⟨B, c.toNat, none⟩ (.int .i64 m)) B 91 (Lex.putAll a (S.data.toList.take (k + 1)) m) ∧ (∀ C, C ≤ B → Below C W (wr.setCell ⟨B, c.toNat, none⟩ (.int .i64 m))) ∧ (∀ g t cs, g ≠ B → Whole W g t cs → Whole (wr.setCell ⟨B, c.toNat, none⟩ (.int .i64 m)) g t cs) ∧ (wr.setCell ⟨B, c.toNat, none⟩ (.int .i64 m)).heap.size = W.heap.size) := Lib.hid ⟨by
        have e : S.data.toList.take (k + 1) = S.data.toList.take k ++ [c] := by
          rw [List.take_add_one, List.getElem?_eq_getElem (show k < S.data.toList.length from hkS)]
          rw [← hTc]; rfl
        rw [e, Lex.putAll_snoc]
        exact HR.out.1.set _ _, fun C hC => (HR.out.2.1 C hC).setCell (p := ⟨B, c.toNat, none⟩) hC _, fun g t cs hg hw => (HR.out.2.2.1 g t cs hg hw).far (p := ⟨B, c.toNat, none⟩) hg _, by simp [HR.out.2.2.2]⟩
      go_wp2_with fail
      go_round
      case rel => exact ⟨k + 1, by omega, by go_num, HN⟩
      case measure => simp [intOf]; omega
    · have hd : decide ((k : Int) < (S.size : Int)) = false := decide_eq_false (by omega)
      have HE : Hid (S.data.toList.take k = S.data.toList) := Lib.hid (List.take_of_length_le (show S.size ≤ k by omega))
      go_wp2_with fail
      go_end0
      rw [HE.out] at HR
      exact ⟨rfl, HR.out⟩

/-- A whole array of classes, made, read and stored. -/
theorem info_table : (Tryz.prog.info? 91).map (fun i => (i.zero, i.size)) = some (some (.agg Lex.zeros), 256) := by kernel_rfl
theorem zeros_eq : Tryz.zeroCells91 = Lex.zeros := by kernel_rfl
theorem load_table {w : World} {B : Nat} {a : Array Value} (h : Whole w B 91 a) (ha : a.size = 256) : (Instr.loadAt 91 (.pointer (some ⟨B, 0, none⟩))).run Tryz.prog w = .ok (.agg a) w := by
  simp only [Instr.loadAt, Instr.sureAddr, Sem.run_bind, Sem.run_pure, Result.andThen]
  exact run_loadVar_row _ _ _ 91 a (0, 0) _ h Tryz.underlying91 rfl (by rw [ha]; exact (zero_of_info info_table).2)
theorem cells_table {w : World} {A : Nat} {a0 : Array Value} (h : Whole w A 91 a0) (h0 : a0.size = 256) (l : List Value) (hl : l.length = 256) (h1 : l.toArray.all (·.oneCell') = true) : (storeCells ⟨A, 0, none⟩ l).run Tryz.prog w = .ok () (w.setRow A l.toArray) := by
  have := run_storeCells_from (P := Tryz.prog) A 91 l 0 a0 w h (by omega) (fun v hv => (Array.all_eq_true_iff_forall_mem.1 h1) v (by simpa using hv))
  simpa using this

theorem opwp_run {P : Program} {o : Oper} {a : Act} {w w' : World} {v : Value} {K : Act → World → Prop} {Q : Exit → Act → World → Prop} (hr : (execOp a.eval o).run P w = .ok (.value v) w') (h : K (a.put o.dst v) w') : o.wp P a w K Q := by
  unfold Oper.wp; rw [hr]; exact h
theorem opwp_skip {P : Program} {o : Oper} {a : Act} {w w' : World} {K : Act → World → Prop} {Q : Exit → Act → World → Prop} (hr : (execOp a.eval o).run P w = .ok .skip w') (h : K (a.put o.dst undef) w') : o.wp P a w K Q := by
  unfold Oper.wp; rw [hr]; exact h
theorem exec_load {P : Program} {ty : TypeId} {x : Operand} {v pv : Value} {w w' : World} (d : Option Tmp) (t : TypeId) (pos : String) (af : Array Edge) (g : Option (Nat × Bool)) (A : Act) (hx : A.eval x = pv) (h : (Instr.loadAt ty pv).run P w = .ok v w') :
    (execOp A.eval ⟨d, .load ty x, t, pos, af, g⟩).run P w = .ok (.value v) w' := by
  unfold execOp
  simp only [hx, Sem.run_bind, h, Result.andThen_ok]
  rfl
theorem exec_store {P : Program} {ty : TypeId} {x y : Operand} {v pv : Value} {w w' : World} (d : Option Tmp) (t : TypeId) (pos : String) (af : Array Edge) (g : Option (Nat × Bool)) (A : Act) (hx : A.eval x = pv) (hy : A.eval y = v) (h : (Instr.storeAt ty pv v).run P w = .ok () w') :
    (execOp A.eval ⟨d, .store ty x y, t, pos, af, g⟩).run P w = .ok .skip w' := by
  unfold execOp
  simp only [hx, hy, Sem.run_bind, h, Result.andThen_ok]
  rfl
theorem results_one_cell {fn : Func} {s : Tmp} {ty : TypeId} (h : fn.results = #[.cell s ty]) (tmps : Array Value) (P : Program) (w : World) (A : Nat) (v : Value) (h2 : tmps.getD s undef = .pointer (some ⟨A, 0, none⟩)) (hl : (loadVar ty ⟨A, 0, none⟩).run P w = .ok v w) :
    (results fn tmps).run P w = .ok v w := by
  simp only [results, h, List.mapM_toArray, List.mapM_cons, List.mapM_nil, h2, asAddr, Sem.run_bind, Sem.run_pure, Sem.run_map, Result.andThen, hl]
  rfl
theorem loadVar_table {w : World} {B : Nat} {a : Array Value} (h : Whole w B 91 a) (ha : a.size = 256) : (loadVar 91 ⟨B, 0, none⟩).run Tryz.prog w = .ok (.agg a) w :=
  run_loadVar_row _ _ _ 91 a (0, 0) _ h Tryz.underlying91 rfl (by rw [ha]; exact (zero_of_info info_table).2)
theorem Lex.cls_one : (Lex.clsL.toArray).all (·.oneCell') = true := by kernel_rfl
theorem set_row {w : World} {A : Nat} {t : TypeId} {a0 : Array Value} (h : Whole w A t a0) (a : Array Value) : Whole (w.setRow A a) A t a := by
  unfold Whole at h ⊢
  simp [World.setRow, Array.getElem?_modify, h]
theorem below_row {W w : World} {A B : Nat} (h : Below B W w) (hB : B ≤ A) (a : Array Value) : Below B W (w.setRow A a) :=
  ⟨h.os, h.tape, h.output, by have := h.size; simpa [World.setRow] using this, fun k hk => by
    rw [← h.block k hk]
    simp [World.setRow, Array.getElem?_modify, show ¬ A = k by omega]⟩

set_option maxRecDepth 100000 in
set_option maxHeartbeats 2000000 in
theorem classes_any (W : World) : Calls Tryz.prog 62 #[] W fun e w' => e = .returned (.agg Lex.clsL.toArray) ∧ Below W.heap.size W w' := by
  go_enter Tryz.func62, Tryz.ntmps62
  go_wp2_with fail
  rw [zeros_eq]
  obtain ⟨A, HAq⟩ : ∃ x, Hid (x = W.heap.size) := ⟨_, Lib.hid rfl⟩
  obtain ⟨B, HBq⟩ : ∃ x, Hid (x = W.heap.size + 1) := ⟨_, Lib.hid rfl⟩
  obtain ⟨W1, HW1⟩ : ∃ x, Hid (x = (W.alloc (.cells Lex.zeros 91)).alloc (.cells Lex.zeros 91)) := ⟨_, Lib.hid rfl⟩
  have HB1 : Hid (Below W.heap.size W W1) := Lib.hid (by rw [HW1.out]; exact ((Below.refl _ _).alloc (Nat.le_refl _) _).alloc (by rw [size_alloc]; omega) _)
  have HT1 : Hid (Whole W1 A 91 Lex.zeros ∧ Whole W1 B 91 Lex.zeros) := Lib.hid (by
    rw [HW1.out, HAq.out, HBq.out]
    refine ⟨(Whole.new W _ _).alloc _, ?_⟩
    have := Whole.new (W.alloc (.cells Lex.zeros 91)) 91 Lex.zeros
    rwa [size_alloc] at this)
  have hAB : A ≠ B := by rw [HAq.out, HBq.out]; omega
  have hWB : W.heap.size ≤ B := by rw [HBq.out]; omega
  rw [← HW1.out, ← HBq.out, ← HAq.out]
  clear HW1
  go_loopw [5] (fun i wr => ∃ k : Nat, k ≤ 26 ∧ i = .int .i64 k ∧ Hid (Whole wr B 91 (Lex.st1 k) ∧ Whole wr A 91 Lex.zeros ∧ Below W.heap.size W wr)) (fun i _ => 26 - (intOf i).toNat)
  case atStart => exact ⟨0, Nat.zero_le _, by go_num, Lib.hid ⟨by rw [Lex.st1_zero]; exact HT1.out.2, HT1.out.1, HB1.out⟩⟩
  case round =>
    obtain ⟨k, hk, rfl, HR⟩ := hrel
    by_cases hkS : k < 26
    · have hd : decide ((k : Int) < 26) = true := decide_eq_true (by omega)
      have hb0 : (0 : Int) ≤ k := by omega
      have hb1 : (k : Int) < 26 := by omega
      have hz := Lex.st1_size k
      have kc : wr.cell? ⟨B, 97 + k, none⟩ = some ((Lex.st1 k)[97 + k]'(by omega)) := by rw [HR.out.1.cell, Array.getElem?_eq_getElem]
      have kf : wr.frozen? ⟨B, 97 + k, none⟩ = false := HR.out.1.frozen _
      have HX := Lib.hid (HR.out.1.set (97 + k) (.int .i64 1))
      have kd : wr.cell? ⟨B, 65 + k, none⟩ = some ((Lex.st1 k)[65 + k]'(by omega)) := by rw [HR.out.1.cell, Array.getElem?_eq_getElem]
      have kg : wr.frozen? ⟨B, 65 + k, none⟩ = false := HR.out.1.frozen _
      have HN : Hid (Whole ((wr.setCell ⟨B, 97 + k, none⟩ (.int .i64 1)).setCell ⟨B, 65 + k, none⟩ (.int .i64 1)) B 91 (Lex.st1 (k + 1)) ∧ Whole ((wr.setCell ⟨B, 97 + k, none⟩ (.int .i64 1)).setCell ⟨B, 65 + k, none⟩ (.int .i64 1)) A 91 Lex.zeros ∧ Below W.heap.size W ((wr.setCell ⟨B, 97 + k, none⟩ (.int .i64 1)).setCell ⟨B, 65 + k, none⟩ (.int .i64 1))) := Lib.hid ⟨by
        rw [Lex.st1_succ]; exact HX.out.set _ _, (HR.out.2.1.far (p := ⟨B, 97 + k, none⟩) hAB _).far (p := ⟨B, 65 + k, none⟩) hAB _, (HR.out.2.2.setCell (p := ⟨B, 97 + k, none⟩) hWB _).setCell (p := ⟨B, 65 + k, none⟩) hWB _⟩
      go_wp2_with fail
      go_round
      case rel => exact ⟨k + 1, by omega, by go_num, HN⟩
      case measure => simp [intOf]; omega
    · have hk26 : k = 26 := by omega
      subst hk26
      have hd : decide ((26 : Int) < 26) = false := rfl
      go_wp2_with fail
      clear hd
      go_loopw [15] (fun i wr => ∃ k : Nat, k ≤ 10 ∧ i = .int .i64 k ∧ Hid (Whole wr B 91 (Lex.st2 k) ∧ Whole wr A 91 Lex.zeros ∧ Below W.heap.size W wr)) (fun i _ => 10 - (intOf i).toNat)
      case atStart => exact ⟨0, Nat.zero_le _, by go_num, Lib.hid ⟨by rw [Lex.st2_zero]; exact HR.out.1, HR.out.2.1, HR.out.2.2⟩⟩
      case round =>
        clear HR
        obtain ⟨k, hk, rfl, HR⟩ := hrel
        by_cases hkS : k < 10
        · have hd : decide ((k : Int) < 10) = true := decide_eq_true (by omega)
          have hb0 : (0 : Int) ≤ k := by omega
          have hb1 : (k : Int) < 10 := by omega
          have hz := Lex.st2_size k
          have kc : wr.cell? ⟨B, 48 + k, none⟩ = some ((Lex.st2 k)[48 + k]'(by omega)) := by rw [HR.out.1.cell, Array.getElem?_eq_getElem]
          have kf : wr.frozen? ⟨B, 48 + k, none⟩ = false := HR.out.1.frozen _
          have HN : Hid (Whole (wr.setCell ⟨B, 48 + k, none⟩ (.int .i64 2)) B 91 (Lex.st2 (k + 1)) ∧ Whole (wr.setCell ⟨B, 48 + k, none⟩ (.int .i64 2)) A 91 Lex.zeros ∧ Below W.heap.size W (wr.setCell ⟨B, 48 + k, none⟩ (.int .i64 2))) := Lib.hid ⟨by
            rw [Lex.st2_succ]; exact HR.out.1.set _ _, HR.out.2.1.far (p := ⟨B, 48 + k, none⟩) hAB _, HR.out.2.2.setCell (p := ⟨B, 48 + k, none⟩) hWB _⟩
          go_wp2_with fail
          go_round
          case rel => exact ⟨k + 1, by omega, by go_num, HN⟩
          case measure => simp [intOf]; omega
        · have hk10 : k = 10 := by omega
          subst hk10
          have hd : decide ((10 : Int) < 10) = false := rfl
          have hz := Lex.st2_size 10
          have kc : wr.cell? ⟨B, 95, none⟩ = some ((Lex.st2 10)[95]'(by omega)) := by rw [HR.out.1.cell, Array.getElem?_eq_getElem]
          have kf : wr.frozen? ⟨B, 95, none⟩ = false := HR.out.1.frozen _
          go_wp2_with fail
          refine (set_any _ (by decide) 8 B (Lex.put (Lex.st2 10) 95 4) (by rw [Lex.put_size]; exact hz) _ (HR.out.1.set 95 _)).mono ?_
          rintro e w3 ⟨rfl, h1, h2, h3, h4⟩
          have H3 := Lib.hid (And.intro h1 (And.intro (h3 _ _ _ hAB (HR.out.2.1.far (p := ⟨B, 95, none⟩) hAB _)) ((HR.out.2.2.setCell (p := ⟨B, 95, none⟩) hWB _).trans (h2 _ hWB))))
          clear h1 h2 h3 h4 kc kf hz
          go_wp2_with fail
          refine (set_any _ (by decide) 16 B _ (by rw [Lex.putAll_size, Lex.put_size]; exact Lex.st2_size 10) _ H3.out.1).mono ?_
          rintro e w4 ⟨rfl, h1, h2, h3, h4⟩
          have ht : Whole w4 B 91 Lex.table := h1
          rw [Lex.table_is] at ht
          have H4 := Lib.hid (And.intro ht (And.intro (h3 _ _ _ hAB H3.out.2.1) (H3.out.2.2.trans (h2 _ hWB))))
          have hsz : (Lex.clsL.toArray).size = 256 := by rw [List.size_toArray, Lex.clsL_len]
          have hld := load_table ht hsz
          have HF := Lib.hid (set_row H4.out.2.1 (Lex.clsL.toArray))
          have HBF := Lib.hid (below_row (H4.out.2.2) (show W.heap.size ≤ A by rw [HAq.out]; exact Nat.le_refl _) (Lex.clsL.toArray))
          have HLd := Lib.hid hld
          have HSc := Lib.hid (cells_table H4.out.2.1 Lex.zeros_size Lex.clsL Lex.clsL_len Lex.cls_one)
          have HSz := Lib.hid hsz
          clear h1 h2 h3 h4 ht hld hsz
          go_wp2_with fail
          refine opwp_run (exec_load _ _ _ _ _ _ rfl HLd.out) ?_
          have hsc := HSc.out
          go_wp2_with fail
          refine bodyPost_ret (results_one_cell rfl _ _ _ A _ rfl (loadVar_table HF.out HSz.out)) rfl ?_
          exact ⟨rfl, HBF.out⟩

end Go.Proofs.YtfkejnnbfneieaaGreatDoor

/- The tokens of a text, as a loop over the reader's iterator gets them. -/
namespace Go.Proofs.YtfkejnnbfneieaaGreatDoor
open Go.RowKit Go.Shelf

attribute [local go_sem] Oper.semAt_some

/-- What is yielded: kind, text, offset, error. -/
abbrev Yd := Int × ByteArray × Nat × Nat
def encY (x : Yd) : Array Value := #[.agg #[.int .i64 x.1, .string x.2.1, .int .i64 x.2.2.1], .int .i64 x.2.2.2]

/-- These tokens have been taken, and the reader stands at q. -/
inductive Run (T : ByteArray) : List Yd → Nat → Prop
  | nil : Run T [] 0
  | snoc {xs : List Yd} {q q' n : Nat} {k : Nat} {t : List UInt8} (h : Run T xs q) (hq : q' < T.size) (hs : T.data.toList.drop q' = Lex.skip false (T.data.toList.drop q)) (ht : Lex.tok T[q'] (T.data.toList.drop (q' + 1)) = .ok k t (T.data.toList.drop n)) (hn : q' < n) (hT : n ≤ T.size) : Run T (xs ++ [((k : Int), ⟨t.toArray⟩, q', 0)]) n
/-- The next token has an error. -/
def Wrong (T : ByteArray) (xs : List Yd) (x : Yd) : Prop := ∃ q q' e, ∃ hq : q' < T.size, Run T xs q ∧ T.data.toList.drop q' = Lex.skip false (T.data.toList.drop q) ∧ Lex.tok T[q'] (T.data.toList.drop (q' + 1)) = .err e ∧ e ≠ 0 ∧ x.2.2.1 = q' ∧ x.2.2.2 = e
def Over (T : ByteArray) (xs : List Yd) : Prop := (∃ q, Run T xs q ∧ Lex.skip false (T.data.toList.drop q) = []) ∨ ∃ pre x, xs = pre ++ [x] ∧ Wrong T pre x
def Cut (T : ByteArray) (xs : List Yd) : Prop := (∃ q, Run T xs q) ∨ ∃ pre x, xs = pre ++ [x] ∧ Wrong T pre x

/-- The reader and the variable that leads to it are as they were. -/
def KpR (b br : Nat) (A B : World) : Prop := A.heap.size ≤ B.heap.size ∧ B.heap[b]? = A.heap[b]? ∧ B.heap[br]? = A.heap[br]?

/-- A token, as what is to be yielded. -/
theorem token_step {W w' : World} {b : Nat} {T : ByteArray} {q p : Nat} {hq : q < T.size} {e : Ending} {pre : List Yd} (h : TokenPost W b T q hq e w') (hr : Run T pre p) (hs : T.data.toList.drop q = Lex.skip false (T.data.toList.drop p)) :
    ∃ (v0 : Int) (v1 : ByteArray) (er n : Nat), e = .returned (.tuple #[.agg #[.int .i64 v0, .string v1, .int .i64 q], .int .i64 er]) ∧ Rd w' b T n ∧ Mv b W w' ∧ ((er = 0 ∧ Run T (pre ++ [(v0, v1, q, er)]) n ∧ q < n ∧ n ≤ T.size) ∨ (er ≠ 0 ∧ Wrong T pre (v0, v1, q, er))) := by
  rcases h with ⟨k, t, n, h1, h2, h3, rfl, h4, h5⟩ | ⟨x, v0, v1, n, h1, h2, rfl, h4, h5⟩
  · exact ⟨k, ⟨t.toArray⟩, 0, n, rfl, h4, h5, Or.inl ⟨rfl, .snoc hr hq hs h1 h2 h3, h2, h3⟩⟩
  · exact ⟨v0, v1, x, n, rfl, h4, h5, Or.inr ⟨h2, p, q, x, hq, hr, hs, h1, h2, rfl, rfl⟩⟩

set_option maxRecDepth 100000 in
set_option maxHeartbeats 4000000 in
theorem tokens_seq (n : Nat) (hn : 1 ≤ n) (b br : Nat) (hbr : b ≠ br) (T : ByteArray) (hT : T.size ≤ 1407374883512) (w : World) (hR : Rd w b T 0) (hB : w.cell? ⟨br, 0, none⟩ = some (.pointer (some ⟨b, 0, none⟩))) :
    SeqMut Fence.wide n Tryz.prog b 80 #[.pointer (some ⟨br, 0, none⟩)] encY (KpR b br) (Over T) (Cut T) w := by
  intro l J Jx W hW hJ hJx hY h0
  have hro : Fence.wide.round = none := rfl
  have HJ := Lib.hid hJ
  have HJx := Lib.hid hJx
  have HR0 := Lib.hid (hR.below hW)
  have HB0 : Hid (W.cell? ⟨br, 0, none⟩ = some (.pointer (some ⟨b, 0, none⟩))) := Lib.hid ((hW.cell (p := ⟨br, 0, none⟩) (lt_of_cell hB)).trans hB)
  have HYY : Hid (∀ pre x A, J pre A → ∃ fn tmps assign body, (Instr.yield l (encY x)).run Tryz.prog A = .ok (.round l fn tmps assign body) A ∧ RoundIn Fence.wide (n - 1) Tryz.prog l fn tmps assign body A (fun e B => ∃ c : Bool, e = .returned (.bool c) ∧ ((c = true ∧ J (pre ++ [x]) B ∧ KpR b br A B) ∨ (c = false ∧ Jx (pre ++ [x]) B)))) := Lib.hid fun pre x A h1 => by
    obtain ⟨fn, tmps, assign, body, hy, hR⟩ := hY pre x A h1
    refine ⟨fn, tmps, assign, body, hy, hR.mono fun e W' h => ?_⟩
    rcases h with ⟨rfl, h1, h2⟩ | ⟨rfl, h1⟩
    · exact ⟨true, rfl, Or.inl ⟨rfl, h1, h2⟩⟩
    · exact ⟨false, rfl, Or.inr ⟨rfl, h1⟩⟩
  have H0 := Lib.hid h0
  clear hJ hJx hY h0 hR hB hW
  refine callsIn_of_wp Tryz.func80 rfl trivial ?_ hro
  simp only [Tryz.ntmps80, List.size_toArray, List.length_cons, List.length_nil, Nat.reduceAdd, Nat.reduceSub, Array.replicate_succ, Array.replicate_zero, List.push_toArray, List.append_toArray, List.nil_append, List.cons_append]
  have kb := HB0.out
  gi_wp2_with fail
  refine ⟨trivial, ?_⟩
  refine (callsIn_wide.2 (rskip_any b T 0 (Nat.zero_le _) (by omega) W HR0.out)).mono ?_
  rintro e w1 ⟨q0, hq0, -, hs0, rfl, hR1, hM1⟩
  have HI : Hid (Rd w1 b T q0 ∧ w1.cell? ⟨br, 0, none⟩ = some (.pointer (some ⟨b, 0, none⟩)) ∧ J [] w1 ∧ Run T [] 0 ∧ T.data.toList.drop q0 = Lex.skip false (T.data.toList.drop 0)) := Lib.hid ⟨hR1, hM1.cell kb (fun h => hbr h.symm), HJ.out _ _ _ H0.out hM1, .nil, hs0⟩
  clear hR1 hM1 hs0 kb
  gi_wp2_with fail
  gi_loopw [] (fun wr => ∃ q, q ≤ T.size ∧ Hid (∃ pre p, Rd wr b T q ∧ wr.cell? ⟨br, 0, none⟩ = some (.pointer (some ⟨b, 0, none⟩)) ∧ J pre wr ∧ Run T pre p ∧ T.data.toList.drop q = Lex.skip false (T.data.toList.drop p))) (fun wr => T.size - posOf wr b)
  case atStart => exact ⟨q0, hq0, Lib.hid ⟨[], 0, HI.out⟩⟩
  case round =>
    obtain ⟨q, hq, HIr⟩ := hrel
    obtain ⟨pre, p, h1, h2, h3, h4, h5⟩ := HIr.out
    have k0 := h1.text
    have k1 := h1.pos
    have hlt := h1.lt
    have hltb := lt_of_cell h2
    have g0 : ∀ X : Grown wr, X.w.cell? ⟨b, 0, none⟩ = some (.string T) := fun X => by rw [X.cell hlt]; exact k0
    have g1 : ∀ X : Grown wr, X.w.cell? ⟨b, 1, none⟩ = some (.int .i64 q) := fun X => by rw [X.cell hlt]; exact k1
    have g2 : ∀ X : Grown wr, X.w.cell? ⟨br, 0, none⟩ = some (.pointer (some ⟨b, 0, none⟩)) := fun X => by rw [X.cell hltb]; exact h2
    have H1 := Lib.hid h1
    have H2 := Lib.hid h2
    have H3 := Lib.hid h3
    have H4 := Lib.hid h4
    have H5 := Lib.hid h5
    clear h1 h3 h4 h5
    by_cases hqT : q < T.size
    · have hd : decide ((q : Int) < (T.size : Int)) = true := decide_eq_true (by omega)
      gi_wp2_with fail
      refine wpIn_wide.2 ?_
      refine wp_region_grown (by kernel_rfl) (by kernel_rfl) ?_
      repeat (go_big_quiet_step (fail))
      refine wpQuiet_nil ?_
      rintro _ ⟨X, rfl⟩
      obtain ⟨X', HX'⟩ : ∃ x, Hid (x = X.w) := ⟨_, Lib.hid rfl⟩
      have HX : Hid (Rd X' b T q ∧ X'.cell? ⟨br, 0, none⟩ = some (.pointer (some ⟨b, 0, none⟩)) ∧ J pre X') := Lib.hid (by
        rw [HX'.out]
        exact ⟨H1.out.below X.below, (X.below.cell (p := ⟨br, 0, none⟩) hltb).trans h2, HJ.out _ _ _ H3.out (Only.of_below _ X.below)⟩)
      rw [← HX'.out]
      clear k0 k1 g0 g1 g2 h2 hlt hltb
      have kb := HX.out.2.1
      gi_wp2_with fail
      refine ⟨trivial, ?_⟩
      refine (callsIn_wide.2 (token_any b T q hqT hT X' HX.out.1)).mono ?_
      rintro e w2 hp
      obtain ⟨v0, v1, er, nx, rfl, r1, r2, r3⟩ := token_step hp H4.out H5.out
      have HT := Lib.hid r3
      have HY2 : Hid (Rd w2 b T nx ∧ w2.cell? ⟨br, 0, none⟩ = some (.pointer (some ⟨b, 0, none⟩)) ∧ J pre w2) := Lib.hid ⟨r1, r2.cell kb (fun h => hbr h.symm), HJ.out _ _ _ HX.out.2.2 r2⟩
      have HSz := Lib.hid r2.size
      clear hp r1 r2 r3 kb
      have hb3 : Below w2.heap.size w2 (w2.alloc (.cells #[.int .i64 v0, .string v1, .int .i64 q] 71)) := (Below.refl _ _).alloc (Nat.le_refl _) _
      obtain ⟨fn, tmps, assign, body, hy, hR⟩ := HYY.out pre (v0, v1, q, er) (w2.alloc (.cells #[.int .i64 v0, .string v1, .int .i64 q] 71)) (HJ.out _ _ _ HY2.out.2.2 (Only.of_below _ hb3))
      have HR3 := Lib.hid (And.intro (HY2.out.1.below hb3) ((hb3.cell (p := ⟨br, 0, none⟩) (lt_of_cell HY2.out.2.1)).trans HY2.out.2.1))
      unfold encY at hy
      dsimp only at hy
      have HRR := Lib.hid hR
      clear hR hb3
      gi_wp2_with fail
      refine HRR.out.mono ?_
      rintro e W4 ⟨c, rfl, hG⟩
      rcases hG with ⟨rfl, hJ4, hk1, hk2, hk3⟩ | ⟨rfl, hJx4⟩
      · have HJ4 := Lib.hid hJ4
        have HR4 : Hid (Rd W4 b T nx ∧ W4.cell? ⟨br, 0, none⟩ = some (.pointer (some ⟨b, 0, none⟩))) := Lib.hid ⟨hk2.trans HR3.out.1, (World.cell?_of_block hk3).trans HR3.out.2⟩
        clear hJ4 hk1 hk2 hk3 hy
        rcases HT.out with ⟨h0, t1, t2, t3⟩ | ⟨h0, t1⟩
        · have HT1 := Lib.hid t1
          have he : ((er : Int) == 0) = true := by rw [h0]; rfl
          have kb := HR4.out.2
          clear t1 HT
          subst h0
          gi_wp2_with fail
          refine ⟨trivial, ?_⟩
          refine (callsIn_wide.2 (rskip_any b T nx t3 (by omega) W4 HR4.out.1)).mono ?_
          rintro e w5 ⟨q1, hq1, hle, hs1, rfl, hR5, hM5⟩
          have HN : Hid (∃ pre p, Rd w5 b T q1 ∧ w5.cell? ⟨br, 0, none⟩ = some (.pointer (some ⟨b, 0, none⟩)) ∧ J pre w5 ∧ Run T pre p ∧ T.data.toList.drop q1 = Lex.skip false (T.data.toList.drop p)) := Lib.hid ⟨_, nx, hR5, hM5.cell kb (fun h => hbr h.symm), HJ.out _ _ _ HJ4.out hM5, HT1.out, hs1⟩
          have HP := Lib.hid hR5
          clear hR5 hM5 hs1 kb
          gi_wp2_with fail
          go_roundw
          case rel => exact ⟨q1, hq1, HN⟩
          case measure => rw [HP.out.posOf, H1.out.posOf]; omega
        · have HT1 := Lib.hid t1
          have he : ((er : Int) == 0) = false := by
            have : ((er : Int) == 0) = decide ((er : Int) = 0) := rfl
            rw [this, decide_eq_false]; omega
          clear t1 HT
          gi_wp2_with fail
          refine bodyPost_ret (results_none rfl _ _ _) rfl ?_
          exact ⟨⟨_, rfl⟩, .inl ⟨_, .inr ⟨pre, _, rfl, HT1.out⟩, HJ4.out⟩⟩
      · have HJ4 := Lib.hid hJx4
        have HC : Hid (Cut T (pre ++ [(v0, v1, q, er)])) := Lib.hid (by
          rcases HT.out with ⟨_, t1, _, _⟩ | ⟨_, t1⟩
          · exact .inl ⟨nx, t1⟩
          · exact .inr ⟨pre, _, rfl, t1⟩)
        clear hJx4 hy
        gi_wp2_with fail
        refine bodyPost_ret (results_none rfl _ _ _) rfl ?_
        exact ⟨⟨_, rfl⟩, .inr ⟨_, HC.out, HJ4.out⟩⟩
    · have hd : decide ((q : Int) < (T.size : Int)) = false := decide_eq_false (by omega)
      gi_wp2_with fail
      refine wpIn_wide.2 ?_
      refine wp_region_grown (by kernel_rfl) (by kernel_rfl) ?_
      repeat (go_big_quiet_step (fail))
      refine wpQuiet_nil ?_
      rintro _ ⟨X, rfl⟩
      have hJX := HJ.out _ _ _ H3.out (Only.of_below (fun x => x = b) X.below)
      gi_wp2_with fail
      go_end0
      refine ⟨⟨_, rfl⟩, .inl ⟨pre, .inl ⟨p, H4.out, ?_⟩, hJX⟩⟩
      rw [← H5.out, List.drop_eq_nil_of_le (show T.data.toList.length ≤ q by show T.size ≤ q; omega)]

end Go.Proofs.YtfkejnnbfneieaaGreatDoor

/- The walk of Lex. -/
namespace Go.Proofs.YtfkejnnbfneieaaGreatDoor
open Go.RowKit Go.Shelf

attribute [local go_sem] Oper.semAt_some

/-- The cells of tokens. -/
def tokC (x : Int × ByteArray × Nat) : List Value := [.int .i64 x.1, .string x.2.1, .int .i64 x.2.2]
def cellsY (l : List Yd) : List Value := l.flatMap fun x => tokC (x.1, x.2.1, x.2.2.1)
theorem cellsY_len (l : List Yd) : (cellsY l).length = l.length * 3 := by
  induction l with
  | nil => rfl
  | cons x l ih => show (tokC _ ++ cellsY l).length = _; rw [List.length_append, ih]; simp [tokC]; omega
theorem cellsY_snoc (l : List Yd) (x : Yd) : cellsY (l ++ [x]) = cellsY l ++ tokC (x.1, x.2.1, x.2.2.1) := by unfold cellsY; rw [List.flatMap_append]; simp

/-- What the loop has so far. -/
structure LexI (W0 : World) (Bs L A0 A1 A2 : Nat) (pre : List Yd) (W : World) : Prop where
  good : ∀ x ∈ pre, x.2.2.2 = 0
  few : pre.length ≤ 5000
  r0 : Whole W A0 66 #[.slice none 0 0]
  r1 : Whole W A1 27 #[.int .i64 0]
  r2 : Whole W A2 3 #[.int .i64 0]
  row : ∃ ao cap, Whole W L 66 #[.slice ao pre.length cap] ∧ W.ownsRow Bs 71 3 (.slice ao pre.length cap) pre.length (cellsY pre)
  low : Below W0.heap.size W0 W
/-- What it leaves with. -/
structure LexX (W0 : World) (L A0 A1 A2 : Nat) (c : Code) (pre : List Yd) (W : World) : Prop where
  ret : c = .ret
  last : ∃ ini x er, pre = ini ++ [x] ∧ (∀ y ∈ ini, y.2.2.2 = 0) ∧ ini.length ≤ 5000 ∧ ((x.2.2.2 ≠ 0 ∧ er = x.2.2.2) ∨ (x.2.2.2 = 0 ∧ ini.length = 5000 ∧ er = 7)) ∧
    Whole W A0 66 #[.slice none 0 0] ∧ Whole W A1 27 #[.int .i64 (er : Nat)] ∧ Whole W A2 3 #[.int .i64 x.2.2.1]
  low : Below W0.heap.size W0 W

theorem whole_book {N : Nat} {A B : World} {g : Nat} {t : TypeId} {cs : Array Value} (h : Whole A g t cs) (ho : Only (Book N A) A B) : Whole B g t cs :=
  ho.whole h fun ⟨_, o, h1, h2⟩ => by
    have := h1.symm.trans h
    injection this with this
    subst this
    cases h2
theorem row_book {N : Nat} {A B : World} {base : Nat} {e : TypeId} {size : Nat} {v : Value} {n : Nat} {xs : List Value} (h : A.ownsRow base e size v n xs) (ho : Only (Book N A) A B) : B.ownsRow base e size v n xs := by
  rcases h with ⟨h1, h2 | ⟨g', cap, cur, rfl, hB, hc, rest⟩⟩
  · exact ⟨h1, Or.inl h2⟩
  · exact ⟨h1, Or.inr ⟨g', cap, cur, rfl, hB, whole_book hc ho, rest⟩⟩
theorem lexI_steady {W0 : World} {Bs L A0 A1 A2 N b : Nat} (hN : W0.heap.size ≤ N) (hb : W0.heap.size ≤ b) (b0 : A0 ≠ b) (b1 : A1 ≠ b) (b2 : A2 ≠ b) (bL : L ≠ b) (hR : b < Bs) : Steady N b (LexI W0 Bs L A0 A1 A2) := by
  refine ⟨fun s A B h ho => ?_, fun s A B h ho => ?_⟩
  · obtain ⟨ao, cap, h1, h2⟩ := h.row
    exact ⟨h.good, h.few, whole_book h.r0 ho, whole_book h.r1 ho, whole_book h.r2 ho, ⟨ao, cap, whole_book h1 ho, row_book h2 ho⟩, h.low.trans (ho.below h.low.size fun k hk => Nat.le_trans hN hk.1)⟩
  · obtain ⟨ao, cap, h1, h2⟩ := h.row
    refine ⟨h.good, h.few, ho.whole h.r0 b0, ho.whole h.r1 b1, ho.whole h.r2 b2, ⟨ao, cap, ho.whole h1 bL, ?_⟩, h.low.trans (ho.below h.low.size fun k hk => by rw [hk]; exact hb)⟩
    rcases h2 with ⟨g1, g2 | ⟨g', cap', cur, hv, hB, hc, rest⟩⟩
    · exact ⟨g1, Or.inl g2⟩
    · exact ⟨g1, Or.inr ⟨g', cap', cur, hv, hB, ho.whole hc (by omega), rest⟩⟩
theorem lexX_steady {W0 : World} {L A0 A1 A2 N b : Nat} (hN : W0.heap.size ≤ N) (hb : W0.heap.size ≤ b) (b0 : A0 ≠ b) (b1 : A1 ≠ b) (b2 : A2 ≠ b) (c : Code) : Steady N b (LexX W0 L A0 A1 A2 c) := by
  refine ⟨fun s A B h ho => ?_, fun s A B h ho => ?_⟩
  · obtain ⟨ini, x, er, e1, e2, e3, e4, h1, h2, h3⟩ := h.last
    exact ⟨h.ret, ⟨ini, x, er, e1, e2, e3, e4, whole_book h1 ho, whole_book h2 ho, whole_book h3 ho⟩, h.low.trans (ho.below h.low.size fun k hk => Nat.le_trans hN hk.1)⟩
  · obtain ⟨ini, x, er, e1, e2, e3, e4, h1, h2, h3⟩ := h.last
    exact ⟨h.ret, ⟨ini, x, er, e1, e2, e3, e4, ho.whole h1 b0, ho.whole h2 b1, ho.whole h3 b2⟩, h.low.trans (ho.below h.low.size fun k hk => by rw [hk]; exact hb)⟩

theorem KeepsFrom.of_below {B : Nat} {W W' : World} (h : Below W.heap.size W W') : KeepsFrom B W W' :=
  ⟨h.size, fun k _ _ hk _ => (h.block k (Array.getElem?_eq_some_iff.1 hk).1).trans hk⟩
theorem KeepsFrom.of_grown {B base : Nat} {W W' : World} {o : Obj} {v : Value} {e : TypeId} {size n : Nat} {xs : List Value} (h : (W.alloc o).grownBy W' v.ownBlock) (hr : W.ownsRow base e size v n xs) : KeepsFrom B W W' := by
  have h1 : KeepsOthers W (W.alloc o) := KeepsOthers.alloc W o
  refine ⟨Nat.le_trans (by rw [size_alloc]; omega) h.size, fun k ob _ hk ho => ?_⟩
  have hk1 := h1.same k ob hk ho
  have hlt := (Array.getElem?_eq_some_iff.1 hk).1
  refine (h.block k (by rw [size_alloc]; omega) fun e => ?_).trans hk1
  rcases hr.2 with ⟨rfl, _⟩ | ⟨g, cap, cur, rfl, _, hc, _⟩
  · cases e
  · have e : g = k := by simpa [Value.ownBlock] using e.symm
    subst e
    rw [hk] at hc
    injection hc with hc
    subst hc
    cases ho
theorem row_far {A B : World} {base base2 : Nat} {e : TypeId} {size : Nat} {v : Value} {n : Nat} {xs : List Value} (h : A.ownsRow base e size v n xs) (hb : base2 ≤ base) (hk : ∀ g cs, base ≤ g → Whole A g e cs → B.heap[g]? = A.heap[g]?) : B.ownsRow base2 e size v n xs := by
  rcases h with ⟨h1, h2 | ⟨g', cap, cur, rfl, hB, hc, rest⟩⟩
  · exact ⟨h1, Or.inl h2⟩
  · exact ⟨h1, Or.inr ⟨g', cap, cur, rfl, Nat.le_trans hb hB, (hk g' cur hB hc).trans hc, rest⟩⟩
theorem info_token : (Tryz.prog.info? 71).map (fun i => (i.zero, i.size, i.bytes)) = some (some (.agg #[.int .i64 0, .string ⟨#[]⟩, .int .i64 0]), 3, 32) := by kernel_rfl
theorem tokens_any (n : Nat) (b : Nat) (w : World) :
    CallsIn Fence.wide n Tryz.prog 63 #[.pointer (some ⟨b, 0, none⟩)] w fun e w' => e = .returned (.func (.func 80) #[] #[.pointer (some ⟨w.heap.size, 0, none⟩)]) ∧ w' = w.alloc (.cells #[.pointer (some ⟨b, 0, none⟩)] 90) := by
  refine callsIn_of_wp Tryz.func63 rfl trivial ?_ rfl
  simp only [Tryz.ntmps63, List.size_toArray, List.length_cons, List.length_nil, Nat.reduceAdd, Nat.reduceSub, Array.replicate_succ, Array.replicate_zero, List.push_toArray, List.append_toArray, List.nil_append, List.cons_append]
  gi_wp2
  go_ret
  exact ⟨rfl, rfl⟩
theorem reader_cells (T : ByteArray) : List.foldl (fun cs (x : Value × Nat) => cs.setIfInBounds (2 + x.snd) x.fst) (Tryz.zeroCells94.setIfInBounds 0 (Value.string T)) Lex.clsL.zipIdx = #[.string T, .int .i64 0] ++ Lex.clsL.toArray := by kernel_rfl

/-- A token that was yielded, as a token. -/
def tkOf (x : Yd) : Lex.Tk := (x.1.toNat, x.2.1.data.toList, x.2.2.1)
theorem run_back {T : ByteArray} {xs : List Yd} {q : Nat} (h : Run T xs q) : (xs.map tkOf).map (fun x => ((x.1 : Int), (⟨x.2.1.toArray⟩ : ByteArray), x.2.2, (0 : Nat))) = xs ∧ xs.length ≤ q ∧ q ≤ T.size ∧ ∀ x ∈ xs, x.2.2.2 = 0 := by
  induction h with
  | nil => simp
  | @snoc xs q q' n k t h hq hs ht hn hT ih =>
    have hle := Lex.skip_len false (T.data.toList.drop q)
    refine ⟨?_, ?_, hT, fun x hx => ?_⟩
    · rw [List.map_append, List.map_append, ih.1]
      simp [tkOf]
    · rw [← hs, List.length_drop, List.length_drop] at hle
      have hlen : T.data.toList.length = T.size := rfl
      rw [List.length_append]
      simp only [List.length_cons, List.length_nil]
      omega
    · rcases List.mem_append.1 hx with hx | hx
      · exact ih.2.2.2 x hx
      · rw [List.mem_singleton.1 hx]
theorem run_lexF {T : ByteArray} {xs : List Yd} {q : Nat} (h : Run T xs q) (hl : xs.length ≤ 5000) (f : Nat) (hf : T.size < f) :
    Lex.lexF f 0 0 T.data.toList = (Lex.lexF (f - xs.length) q xs.length (T.data.toList.drop q)).map (xs.map tkOf ++ ·) := by
  induction h with
  | nil =>
    show _ = (Lex.lexF f 0 0 T.data.toList).map _
    cases Lex.lexF f 0 0 T.data.toList <;> rfl
  | @snoc xs q q' n k t h hq hs ht hn hT ih =>
    rw [List.length_append] at hl
    simp only [List.length_cons, List.length_nil] at hl
    rw [ih (by omega)]
    obtain ⟨-, hb, hc, -⟩ := run_back h
    have hlen : T.data.toList.length = T.size := rfl
    have hle := Lex.skip_len false (T.data.toList.drop q)
    rw [← hs, List.length_drop, List.length_drop] at hle
    have hc' : Lex.skip false (T.data.toList.drop q) = T[q'] :: T.data.toList.drop (q' + 1) := by rw [← hs, Lex.drop_cons hq]
    obtain ⟨g, hg⟩ : ∃ g, f - xs.length = g + 1 := ⟨f - xs.length - 1, by omega⟩
    have hg' : f - (xs ++ [((k : Int), (⟨t.toArray⟩ : ByteArray), q', 0)]).length = g := by rw [List.length_append]; simp only [List.length_cons, List.length_nil]; omega
    rw [hg, hg']
    conv => lhs; unfold Lex.lexF
    rw [hc']
    dsimp only
    rw [ht]
    dsimp only
    rw [if_neg (by omega)]
    have e1 : q + ((T.data.toList.drop q).length - ((T.data.toList.drop (q' + 1)).length + 1)) = q' := by simp only [List.length_drop]; omega
    have e2 : q + ((T.data.toList.drop q).length - (T.data.toList.drop n).length) = n := by simp only [List.length_drop]; omega
    rw [e1, e2, List.length_append]
    simp only [List.length_cons, List.length_nil]
    cases Lex.lexF g n (xs.length + 1) (T.data.toList.drop n) with
    | error e => rfl
    | ok l => simp [Except.map, tkOf]
theorem lex_done {T : ByteArray} {xs : List Yd} {q : Nat} (h : Run T xs q) (hl : xs.length ≤ 5000) (hs : Lex.skip false (T.data.toList.drop q) = []) : Lex.lex T.data.toList = .ok (xs.map tkOf) := by
  unfold Lex.lex
  rw [run_lexF h hl (T.data.toList.length + 1) (show T.size < T.size + 1 from Nat.lt_succ_self _)]
  obtain ⟨-, hb, hc, -⟩ := run_back h
  have hlen : T.data.toList.length = T.size := rfl
  obtain ⟨g, hg⟩ : ∃ g, T.data.toList.length + 1 - xs.length = g + 1 := ⟨T.size - xs.length, by omega⟩
  rw [hg]
  unfold Lex.lexF
  rw [hs]
  simp [Except.map]
theorem lex_wrong {T : ByteArray} {xs : List Yd} {x : Yd} (h : Wrong T xs x) (hl : xs.length ≤ 5000) : Lex.lex T.data.toList = .error (x.2.2.2, x.2.2.1) := by
  obtain ⟨q, q', e, hq, hr, hs, ht, he, ha, hx⟩ := h
  unfold Lex.lex
  rw [run_lexF hr hl (T.data.toList.length + 1) (show T.size < T.size + 1 from Nat.lt_succ_self _)]
  obtain ⟨-, hb, hc, -⟩ := run_back hr
  have hlen : T.data.toList.length = T.size := rfl
  have hle := Lex.skip_len false (T.data.toList.drop q)
  rw [← hs, List.length_drop, List.length_drop] at hle
  obtain ⟨g, hg⟩ : ∃ g, T.data.toList.length + 1 - xs.length = g + 1 := ⟨T.size - xs.length, by omega⟩
  rw [hg]
  unfold Lex.lexF
  rw [show Lex.skip false (T.data.toList.drop q) = T[q'] :: T.data.toList.drop (q' + 1) by rw [← hs, Lex.drop_cons hq]]
  dsimp only
  rw [ht]
  have e1 : q + ((T.data.toList.drop q).length - ((T.data.toList.drop (q' + 1)).length + 1)) = q' := by simp only [List.length_drop]; omega
  rw [e1, ha, hx]
  rfl
theorem lex_limit {T : ByteArray} {xs : List Yd} {x : Yd} {q : Nat} (h : Run T (xs ++ [x]) q) (hl : xs.length = 5000) : Lex.lex T.data.toList = .error (7, x.2.2.1) := by
  obtain ⟨ys, hy⟩ : ∃ ys, ys = xs ++ [x] := ⟨_, rfl⟩
  rw [← hy] at h
  cases h with
  | nil => simp at hy
  | @snoc xs' q0 q' n k t h hq hs ht hn hT =>
    obtain ⟨rfl, hx⟩ := List.append_inj' hy (by simp)
    simp only [List.cons.injEq, and_true] at hx
    subst hx
    unfold Lex.lex
    rw [run_lexF h (by omega) (T.data.toList.length + 1) (show T.size < T.size + 1 from Nat.lt_succ_self _)]
    obtain ⟨-, hb, hc, -⟩ := run_back h
    have hlen : T.data.toList.length = T.size := rfl
    have hle := Lex.skip_len false (T.data.toList.drop q0)
    rw [← hs, List.length_drop, List.length_drop] at hle
    obtain ⟨g, hg⟩ : ∃ g, T.data.toList.length + 1 - xs'.length = g + 1 := ⟨T.size - xs'.length, by omega⟩
    rw [hg]
    unfold Lex.lexF
    rw [show Lex.skip false (T.data.toList.drop q0) = T[q'] :: T.data.toList.drop (q' + 1) by rw [← hs, Lex.drop_cons hq]]
    dsimp only
    rw [ht]
    dsimp only
    rw [if_pos hl]
    have e1 : q0 + ((T.data.toList.drop q0).length - ((T.data.toList.drop (q' + 1)).length + 1)) = q' := by simp only [List.length_drop]; omega
    rw [e1]
    rfl

/-- What Lex returns. -/
def LexPost (W : World) (T : ByteArray) (e : Ending) (w' : World) : Prop :=
  Below W.heap.size W w' ∧ (
  (20000 < T.size ∧ e = .returned (.tuple #[.slice none 0 0, .int .i64 7, .int .i64 (-1)])) ∨
  (T.size ≤ 20000 ∧ ∃ x q, Lex.lex T.data.toList = .error (x, q) ∧ x ≠ 0 ∧ e = .returned (.tuple #[.slice none 0 0, .int .i64 (x : Nat), .int .i64 (q : Nat)])) ∨
  (T.size ≤ 20000 ∧ ∃ l ao cap, Lex.lex T.data.toList = .ok l ∧ e = .returned (.tuple #[.slice ao l.length cap, .int .i64 0, .int .i64 0]) ∧ w'.ownsRow W.heap.size 71 3 (.slice ao l.length cap) l.length (cellsY (l.map fun x => ((x.1 : Int), ⟨x.2.1.toArray⟩, x.2.2, 0)))))

set_option maxRecDepth 100000 in
set_option maxHeartbeats 8000000 in
theorem lex_in (T : ByteArray) (hT : T.size ≤ 1407374883512) (W : World) : CallsIn Fence.wide 6 Tryz.prog 38 #[.string T] W (LexPost W T) := by
  have hro : Fence.wide.round = none := rfl
  have hone : 1 ≤ 6 := by omega
  refine callsIn_of_wp_marks Tryz.func38 rfl trivial ?_ hro
  simp only [Tryz.ntmps38, List.size_toArray, List.length_cons, List.length_nil, Nat.reduceAdd, Nat.reduceSub, Array.replicate_succ, Array.replicate_zero, List.push_toArray, List.append_toArray, List.nil_append, List.cons_append]
  by_cases h2 : 20000 < T.size
  · have hd : decide ((20000 : Int) < (T.size : Int)) = true := decide_eq_true (by omega)
    have hd' : decide (20000 < T.size) = true := decide_eq_true h2
    gi_wp2_with fail
    have r0 : (((W.alloc (.cells #[.slice none 0 0] 66)).alloc (.cells #[.int .i64 7] 27)).alloc (.cells #[.int .i64 (-1)] 3)).cell? ⟨W.heap.size, 0, none⟩ = some (.slice none 0 0) := by simp [cell_alloc]; omega
    have r1 : (((W.alloc (.cells #[.slice none 0 0] 66)).alloc (.cells #[.int .i64 7] 27)).alloc (.cells #[.int .i64 (-1)] 3)).cell? ⟨W.heap.size + 1, 0, none⟩ = some (.int .i64 7) := by simp [cell_alloc]
    have r2 : (((W.alloc (.cells #[.slice none 0 0] 66)).alloc (.cells #[.int .i64 7] 27)).alloc (.cells #[.int .i64 (-1)] 3)).cell? ⟨W.heap.size + 1 + 1, 0, none⟩ = some (.int .i64 (-1)) := by simp [cell_alloc]
    refine ⟨.tuple #[.slice none 0 0, .int .i64 7, .int .i64 (-1)], by simp [results, Tryz.f38, go_sem, r0, r1, r2], ?_, Or.inl ⟨h2, rfl⟩⟩
    exact (((Below.refl _ _).alloc (Nat.le_refl _) _).alloc (by rw [size_alloc]; omega) _).alloc (by rw [size_alloc, size_alloc]; omega) _
  · have hd : decide ((20000 : Int) < (T.size : Int)) = false := decide_eq_false (by omega)
    have hd' : decide (20000 < T.size) = false := decide_eq_false h2
    gi_wp2_with fail
    refine ⟨trivial, ?_⟩
    refine (callsIn_wide.2 (classes_any _)).mono ?_
    rintro e w1 ⟨rfl, hb⟩
    have HB1 := Lib.hid hb
    clear hb
    gi_wp2_with fail
    rw [reader_cells]
    obtain ⟨w2, HW2⟩ : ∃ x, Hid (x = w1.alloc (.cells (#[.string T, .int .i64 0] ++ Lex.clsL.toArray) 94)) := ⟨_, Lib.hid rfl⟩
    rw [← HW2.out]
    refine ⟨trivial, ?_⟩
    refine (tokens_any 5 w1.heap.size w2).mono ?_
    rintro e w3 ⟨rfl, rfl⟩
    obtain ⟨N, HN⟩ : ∃ x, Hid (x = W.heap.size) := ⟨_, Lib.hid rfl⟩
    have hz1 := HB1.out.size
    simp only [size_alloc] at hz1
    obtain ⟨b, Hb⟩ : ∃ x, Hid (x = w1.heap.size) := ⟨_, Lib.hid rfl⟩
    have hz2 : w2.heap.size = b + 1 := by rw [HW2.out, size_alloc, Hb.out]
    have hNb : N + 4 ≤ b := by rw [HN.out, Hb.out]; omega
    obtain ⟨w4, HW4⟩ : ∃ x, Hid (x = w2.alloc (.cells #[.pointer (some ⟨b, 0, none⟩)] 90)) := ⟨_, Lib.hid rfl⟩
    have hz4 : w4.heap.size = b + 1 + 1 := by rw [HW4.out, size_alloc, hz2]
    have HR : Hid (Rd w4 b T 0) := Lib.hid (by
      have h1 : Rd w2 b T 0 := by rw [HW2.out, Hb.out]; exact Whole.new w1 _ _
      rw [HW4.out]; exact h1.below ((Below.refl _ _).alloc (Nat.le_refl _) _))
    have HBx : Hid (w4.cell? ⟨b + 1, 0, none⟩ = some (.pointer (some ⟨b, 0, none⟩))) := Lib.hid (by rw [HW4.out, cell_alloc, if_pos hz2.symm]; rfl)
    have HB4 : Hid (Below w1.heap.size w1 w4) := Lib.hid (by
      rw [HW4.out, HW2.out]
      exact ((Below.refl _ _).alloc (Nat.le_refl _) _).alloc (by rw [size_alloc]; omega) _)
    rw [hz2, ← Hb.out, ← HW4.out, ← HN.out]
    gi_wp2_with fail
    have HI0 : Hid (LexI W w4.heap.size (N + 3) N (N + 1) (N + 2) [] w4) := Lib.hid (by
      have hin : ∀ g t cs, Whole ((((W.alloc (.cells #[.slice none 0 0] 66)).alloc (.cells #[.int .i64 0] 27)).alloc (.cells #[.int .i64 0] 3)).alloc (.cells #[.slice none 0 0] 66)) g t cs → Whole w4 g t cs := fun g t cs h => by
        have h1 := (HB1.out.block g h.lt).trans h
        exact (HB4.out.block g (Nat.lt_of_lt_of_le h.lt HB1.out.size)).trans h1
      rw [HN.out]
      refine ⟨fun x hx => by simp at hx, Nat.zero_le _, hin _ _ _ ?_, hin _ _ _ ?_, hin _ _ _ ?_, ⟨none, 0, hin _ _ _ ?_, World.ownsRow_nil _ _ _ _⟩, ?_⟩
      · exact (((Whole.new W _ _).alloc _).alloc _).alloc _
      · have := ((Whole.new (W.alloc (.cells #[.slice none 0 0] 66)) 27 #[.int .i64 0]).alloc (.cells #[.int .i64 0] 3)).alloc (.cells #[.slice none 0 0] 66)
        rwa [size_alloc] at this
      · have := (Whole.new ((W.alloc (.cells #[.slice none 0 0] 66)).alloc (.cells #[.int .i64 0] 27)) 3 #[.int .i64 0]).alloc (.cells #[.slice none 0 0] 66)
        rwa [size_alloc, size_alloc] at this
      · have := Whole.new (((W.alloc (.cells #[.slice none 0 0] 66)).alloc (.cells #[.int .i64 0] 27)).alloc (.cells #[.int .i64 0] 3)) 66 #[.slice none 0 0]
        rwa [size_alloc, size_alloc, size_alloc] at this
      · exact (((((Below.refl W.heap.size W).alloc (Nat.le_refl _) _).alloc (by rw [size_alloc]; omega) _).alloc (by rw [size_alloc, size_alloc]; omega) _).alloc (by rw [size_alloc, size_alloc, size_alloc]; omega) _).trans ((HB1.out.trans (HB4.out.mono HB1.out.size)).mono (by simp only [size_alloc]; omega)))
    refine wpIn_range_mut (b := b) (by omega) hro hone (gf := 80) (lb := #[.pointer (some ⟨b + 1, 0, none⟩)]) rfl trivial (enters_of Tryz.func80 (by kernel_rfl) rfl)
      (tokens_seq 5 (by omega) b (b + 1) (by omega) T hT w4 HR.out HBx.out) (fun {A B C} h k => ⟨Nat.le_trans h.1 k.1, k.2.1.trans h.2.1, k.2.2.trans h.2.2⟩) (fun X l o hl => ⟨by rw [World.putObj_size]; exact Nat.le_refl _, World.putObj_heap_other (by omega), World.putObj_heap_other (by omega)⟩) (fun _ => rfl)
      (LexI W w4.heap.size (N + 3) N (N + 1) (N + 2)) (LexX W (N + 3) N (N + 1) (N + 2)) (lexI_steady (by rw [← HN.out]; omega) (by rw [← HN.out]; omega) (by omega) (by omega) (by omega) (by omega) (by omega)) (lexX_steady (by rw [← HN.out]; omega) (by rw [← HN.out]; omega) (by omega) (by omega) (by omega)) HI0.out ?round ?done ?stop
    case round =>
      rintro l' pre ⟨v0, v1, at_, er⟩ X hI hl hbk
      have HI := Lib.hid hI
      have HBk := Lib.hid hbk
      clear hI hbk
      simp only [encY]
      gi_wp2_with fail
      have hb5 : Below X.heap.size X (X.alloc (.cells #[.int .i64 v0, .string v1, .int .i64 at_] 71)) := (Below.refl _ _).alloc (Nat.le_refl _) _
      refine ⟨KeepsFrom.of_below hb5, fun o => ?_⟩
      obtain ⟨Y, HY⟩ : ∃ x, Hid (x = (X.alloc (.cells #[.int .i64 v0, .string v1, .int .i64 at_] 71)).putObj l' o) := ⟨_, Lib.hid rfl⟩
      rw [← HY.out]
      obtain ⟨tb, Htb⟩ : ∃ x, Hid (x = X.heap.size) := ⟨_, Lib.hid rfl⟩
      have hst := lexI_steady (W0 := W) (Bs := w4.heap.size) (L := N + 3) (A0 := N) (A1 := N + 1) (A2 := N + 2) (N := w4.heap.size) (b := b) (by rw [← HN.out]; omega) (by rw [← HN.out]; omega) (by omega) (by omega) (by omega) (by omega) (by omega)
      have hX1 := hst.1 _ _ _ HI.out ((Only.of_below _ hb5))
      have hlX : l' < X.heap.size := by obtain ⟨_, o', h1, _⟩ := HBk.out; exact (Array.getElem?_eq_some_iff.1 h1).1
      have hbk1 : Book w4.heap.size (X.alloc (.cells #[.int .i64 v0, .string v1, .int .i64 at_] 71)) l' := by
        obtain ⟨h0, o', h1, h2⟩ := HBk.out
        exact ⟨h0, o', (hb5.block l' hlX).trans h1, h2⟩
      have HIY : Hid (LexI W w4.heap.size (N + 3) N (N + 1) (N + 2) pre Y) := Lib.hid (by
        rw [HY.out]
        exact hst.1 _ _ _ hX1 (only_put _ _ _ hbk1))
      have HTY : Hid (Whole Y tb 71 #[.int .i64 v0, .string v1, .int .i64 at_]) := Lib.hid (by
        rw [HY.out, Htb.out]
        exact (World.putObj_heap_other (by omega)).trans (Whole.new X _ _))
      have HKY : Hid (KpR b (b + 1) X Y) := Lib.hid (by
        rw [HY.out]
        have h4 : b + 1 < X.heap.size := by have := HBk.out.1; omega
        exact ⟨by rw [World.putObj_size]; exact hb5.size, (World.putObj_heap_other (by omega)).trans (hb5.block b (by omega)), (World.putObj_heap_other (by omega)).trans (hb5.block (b + 1) h4)⟩)
      have hNtb : b + 1 < tb := by rw [Htb.out]; have := HBk.out.1; omega
      rw [← Htb.out]
      clear hst hX1 hbk1 hb5
      obtain ⟨ao, cap, q1, q2⟩ := HIY.out.row
      have HRow := Lib.hid q2
      have HWL := Lib.hid q1
      have cL : Y.cell? ⟨N + 3, 0, none⟩ = some (.slice ao pre.length cap) := q1.cell 0
      have t0 : Y.cell? ⟨tb, 0, none⟩ = some (.int .i64 v0) := HTY.out.cell 0
      have t1 : Y.cell? ⟨tb, 1, none⟩ = some (.string v1) := HTY.out.cell 1
      have t2 : Y.cell? ⟨tb, 2, none⟩ = some (.int .i64 at_) := HTY.out.cell 2
      have hmixed : (Tryz.prog).follows .mixedOrders = true := by kernel_rfl
      clear q1 q2
      by_cases h0 : er = 0
      · have e0 : ((er : Int) == 0) = true := by rw [h0]; rfl
        by_cases h5 : pre.length = 5000
        · have e5 : ((pre.length : Int) == 5000) = true := by rw [h5]; rfl
          have H5 := Lib.hid h5
          have H0 := Lib.hid h0
          clear h5 h0
          gi_wp2_with fail
          have g2 : ∀ Z : Grown Y, Z.w.cell? ⟨tb, 2, none⟩ = some (.int .i64 at_) := fun Z => by rw [Z.cell HTY.out.lt]; exact t2
          have c0 : Y.cell? ⟨N, 0, none⟩ = some (.slice none 0 0) := HIY.out.r0.cell 0
          have c1 : Y.cell? ⟨N + 1, 0, none⟩ = some (.int .i64 0) := HIY.out.r1.cell 0
          have c2 : Y.cell? ⟨N + 1 + 1, 0, none⟩ = some (.int .i64 0) := HIY.out.r2.cell 0
          have f0 := HIY.out.r0.frozen 0
          have f1 := HIY.out.r1.frozen 0
          have f2 : Y.frozen? ⟨N + 1 + 1, 0, none⟩ = false := HIY.out.r2.frozen 0
          gi_region_with_o (fail)
          all_goals
            gi_wp2_with fail
            refine ⟨((((KeepsOthers.drew Y).trans (KeepsOthers.setCell _ _ _)).trans (KeepsOthers.setCell _ _ _)).trans (KeepsOthers.setCell _ _ _)).from _, rfl, ⟨pre, _, 7, rfl, HIY.out.good, HIY.out.few, Or.inr ⟨H0.out, H5.out, rfl⟩, ?_, ?_, ?_⟩, ?_⟩
            · exact (((HIY.out.r0.drew.set 0 _).far (p := ⟨N + 1, 0, none⟩) (by show N ≠ N + 1; omega) _).far (p := ⟨N + 1 + 1, 0, none⟩) (by show N ≠ N + 1 + 1; omega) _)
            · exact (((HIY.out.r1.drew.far (p := ⟨N, 0, none⟩) (by show N + 1 ≠ N; omega) _).set 0 _).far (p := ⟨N + 1 + 1, 0, none⟩) (by show N + 1 ≠ N + 1 + 1; omega) _)
            · exact (((HIY.out.r2.drew.far (p := ⟨N, 0, none⟩) (by show N + 2 ≠ N; omega) _).far (p := ⟨N + 1, 0, none⟩) (by show N + 2 ≠ N + 1; omega) _).set 0 _)
            · exact (((HIY.out.low.drew.setCell (p := ⟨N, 0, none⟩) (by show _ ≤ N; rw [HN.out]; exact Nat.le_refl _) _).setCell (p := ⟨N + 1, 0, none⟩) (by show _ ≤ N + 1; rw [HN.out]; omega) _).setCell (p := ⟨N + 1 + 1, 0, none⟩) (by show _ ≤ N + 1 + 1; rw [HN.out]; omega) _)
        · have e5 : ((pre.length : Int) == 5000) = false := by
            have : ((pre.length : Int) == 5000) = decide ((pre.length : Int) = 5000) := rfl
            rw [this, decide_eq_false]; omega
          obtain ⟨i1, hi1, hy0, hy1, hy2⟩ := info_parts info_token
          have fL := HWL.out.frozen 0
          have hfew := HIY.out.few
          have hc1 : ∀ j u, [Value.int .i64 v0, .string v1, .int .i64 at_][j]? = some u → (Y.alloc (.cells #[.int .i64 v0, .string v1, .int .i64 at_] 71)).cell? ((⟨Y.heap.size, 0, none⟩ : Addr).add j) = some u := World.news_of_block (Whole.new Y 71 #[.int .i64 v0, .string v1, .int .i64 at_])
          have hc2 : ∀ u ∈ [Value.int .i64 v0, .string v1, .int .i64 at_], u.oneCell' = true := by
            intro u hu
            simp only [List.mem_cons, List.not_mem_nil, or_false] at hu
            rcases hu with rfl | rfl | rfl <;> rfl
          have hne : (Value.slice ao pre.length cap).ownBlock ≠ some (N + 3) := fun h => by have := (HRow.out.lt _ h).1; omega
          have HNe := Lib.hid hne
          have hYs : w4.heap.size ≤ Y.heap.size := by have h1 := HTY.out.lt; have h2 := HBk.out.1; rw [Htb.out] at h1; omega
          clear hne
          gi_wp2_with (gi_at_builtin; go_loud (refine wpListIn_append_own _ rfl (.tmp 32) (.tmp 34) 66 rfl w4.heap.size 71 i1 (.agg #[.int .i64 0, .string ⟨#[]⟩, .int .i64 0]) 3 32 Tryz.underlying66 hi1 hy0 hy1 hy2 rfl (by decide) (.slice ao pre.length cap) pre.length (cellsY pre) rfl (HRow.out.alloc _) ⟨Y.heap.size, 0, none⟩ 1 1 [.int .i64 v0, .string v1, .int .i64 at_] rfl rfl hc1 hc2 (by unfold maxLen; omega) (by omega) (by rw [size_alloc]; omega) ?_); intro v' w' hown hgrow hnil; obtain ⟨g', cp', rfl, _, _⟩ := hown.form (Nat.succ_pos _); have HWL' : Hid (Whole w' (N + 3) 66 #[.slice ao pre.length cap]) := Lib.hid ((hgrow.block (N + 3) (by rw [size_alloc]; have := HWL.out.lt; omega) (fun h => HNe.out h.symm)).trans (HWL.out.alloc _)); have cL' : w'.cell? ⟨N + 3, 0, none⟩ = some (.slice ao pre.length cap) := HWL'.out.cell 0; have fL' := HWL'.out.frozen 0; have HO := Lib.hid hown; have HGr := Lib.hid hgrow; clear hown hgrow hnil)
          have hgb : ∀ k, k < w4.heap.size → w'.heap[k]? = Y.heap[k]? := fun k hk => (HGr.out.block k (by rw [size_alloc]; omega) (fun h => by have := (HRow.out.lt _ h.symm).1; omega)).trans (Below.heap_alloc Y _ k (by omega))
          have hYw : Y.heap.size ≤ w'.heap.size := Nat.le_trans (by rw [size_alloc]; omega) HGr.out.size
          have hfar : ∀ {k : Nat} {t : TypeId} {cs : Array Value}, k < w4.heap.size → N + 3 ≠ k → Whole Y k t cs → Whole (w'.setCell ⟨N + 3, 0, none⟩ (.slice (some ⟨g', 0, none⟩) (pre.length + 1) cp')) k t cs := fun {k t cs} hk hne h => (Below.heap_setCell w' ⟨N + 3, 0, none⟩ _ k (fun e => hne e.symm)).trans ((hgb k hk).trans h)
          refine ⟨(KeepsFrom.of_grown HGr.out HRow.out).trans ((KeepsOthers.setCell _ _ _).from _), ⟨?_, ?_, ?_⟩, ?_⟩
          · rw [World.size_setCell]; exact Nat.le_trans HKY.out.1 hYw
          · exact (Below.heap_setCell w' ⟨N + 3, 0, none⟩ _ b (by show b ≠ N + 3; omega)).trans ((hgb b (by omega)).trans HKY.out.2.1)
          · exact (Below.heap_setCell w' ⟨N + 3, 0, none⟩ _ (b + 1) (by show b + 1 ≠ N + 3; omega)).trans ((hgb (b + 1) (by omega)).trans HKY.out.2.2)
          · refine ⟨?_, by rw [List.length_append]; show pre.length + 1 ≤ 5000; omega, hfar (by omega) (by omega) HIY.out.r0, hfar (by omega) (by omega) HIY.out.r1, hfar (by omega) (by omega) HIY.out.r2, ⟨some ⟨g', 0, none⟩, cp', ?_, ?_⟩, ?_⟩
            · intro x hx
              rcases List.mem_append.1 hx with hx | hx
              · exact HIY.out.good x hx
              · rw [List.mem_singleton.1 hx]; exact h0
            · rw [List.length_append]
              exact HWL'.out.set 0 _
            · rw [List.length_append, cellsY_snoc]
              exact HO.out.kept (row := some (N + 3)) ⟨rfl, rfl, rfl, by simp, fun j _ hj => Below.heap_setCell _ _ _ _ (fun e => hj (by rw [e]))⟩ (Or.inr fun h => by have := (HO.out.lt _ h).1; omega)
            · exact ((HIY.out.low.alloc HIY.out.low.size _).grown HGr.out (by rw [size_alloc]; have := HIY.out.low.size; omega) (fun k hk => by have := (HRow.out.lt k hk).1; rw [← HN.out]; omega)).setCell (p := ⟨N + 3, 0, none⟩) (by show _ ≤ N + 3; rw [HN.out]; omega) _
      · have e0 : ((er : Int) == 0) = false := by
          have : ((er : Int) == 0) = decide ((er : Int) = 0) := rfl
          rw [this, decide_eq_false]; omega
        have H0 := Lib.hid h0
        clear h0
        gi_wp2_with fail
        have g2 : ∀ Z : Grown Y, Z.w.cell? ⟨tb, 2, none⟩ = some (.int .i64 at_) := fun Z => by rw [Z.cell HTY.out.lt]; exact t2
        have c0 : Y.cell? ⟨N, 0, none⟩ = some (.slice none 0 0) := HIY.out.r0.cell 0
        have c1 : Y.cell? ⟨N + 1, 0, none⟩ = some (.int .i64 0) := HIY.out.r1.cell 0
        have c2 : Y.cell? ⟨N + 1 + 1, 0, none⟩ = some (.int .i64 0) := HIY.out.r2.cell 0
        have f0 := HIY.out.r0.frozen 0
        have f1 := HIY.out.r1.frozen 0
        have f2 : Y.frozen? ⟨N + 1 + 1, 0, none⟩ = false := HIY.out.r2.frozen 0
        gi_region_with_o (fail)
        all_goals
          gi_wp2_with fail
          refine ⟨((((KeepsOthers.drew Y).trans (KeepsOthers.setCell _ _ _)).trans (KeepsOthers.setCell _ _ _)).trans (KeepsOthers.setCell _ _ _)).from _, rfl, ⟨pre, _, er, rfl, HIY.out.good, HIY.out.few, Or.inl ⟨H0.out, rfl⟩, ?_, ?_, ?_⟩, ?_⟩
          · exact (((HIY.out.r0.drew.set 0 _).far (p := ⟨N + 1, 0, none⟩) (by show N ≠ N + 1; omega) _).far (p := ⟨N + 1 + 1, 0, none⟩) (by show N ≠ N + 1 + 1; omega) _)
          · exact (((HIY.out.r1.drew.far (p := ⟨N, 0, none⟩) (by show N + 1 ≠ N; omega) _).set 0 _).far (p := ⟨N + 1 + 1, 0, none⟩) (by show N + 1 ≠ N + 1 + 1; omega) _)
          · exact (((HIY.out.r2.drew.far (p := ⟨N, 0, none⟩) (by show N + 2 ≠ N; omega) _).far (p := ⟨N + 1, 0, none⟩) (by show N + 2 ≠ N + 1; omega) _).set 0 _)
          · exact (((HIY.out.low.drew.setCell (p := ⟨N, 0, none⟩) (by show _ ≤ N; rw [HN.out]; exact Nat.le_refl _) _).setCell (p := ⟨N + 1, 0, none⟩) (by show _ ≤ N + 1; rw [HN.out]; omega) _).setCell (p := ⟨N + 1 + 1, 0, none⟩) (by show _ ≤ N + 1 + 1; rw [HN.out]; omega) _)
    case done =>
      rintro D ys X hD hS hI hK
      obtain ⟨q, hrun, hsk⟩ : ∃ q, Run T ys q ∧ Lex.skip false (T.data.toList.drop q) = [] := by
        rcases hS with h | ⟨pre, x, rfl, _, _, e, _, _, _, _, he, _, hx⟩
        · exact h
        · exact absurd (hI.good x (by simp)) (by rw [hx]; exact he)
      have HLx := Lib.hid (lex_done hrun hI.few hsk)
      have HBack := Lib.hid (run_back hrun).1
      have HI := Lib.hid hI
      clear hS hI hrun hsk
      obtain ⟨ao, cap, q1, q2⟩ := HI.out.row
      have HRow := Lib.hid q2
      have cL : X.cell? ⟨N + 3, 0, none⟩ = some (.slice ao ys.length cap) := q1.cell 0
      have c0 : X.cell? ⟨N, 0, none⟩ = some (.slice none 0 0) := HI.out.r0.cell 0
      have c1 : X.cell? ⟨N + 1, 0, none⟩ = some (.int .i64 0) := HI.out.r1.cell 0
      have c2 : X.cell? ⟨N + 1 + 1, 0, none⟩ = some (.int .i64 0) := HI.out.r2.cell 0
      have f0 := HI.out.r0.frozen 0
      have f1 := HI.out.r1.frozen 0
      have f2 : X.frozen? ⟨N + 1 + 1, 0, none⟩ = false := HI.out.r2.frozen 0
      have HWs : Hid (Whole ((((X.setCell ⟨N, 0, none⟩ (.slice ao ys.length cap)).setCell ⟨N + 1, 0, none⟩ (.int .i64 0)).setCell ⟨N + 1 + 1, 0, none⟩ (.int .i64 0)).putObj D (.deferred none)) N 66 #[.slice ao ys.length cap] ∧ Whole ((((X.setCell ⟨N, 0, none⟩ (.slice ao ys.length cap)).setCell ⟨N + 1, 0, none⟩ (.int .i64 0)).setCell ⟨N + 1 + 1, 0, none⟩ (.int .i64 0)).putObj D (.deferred none)) (N + 1) 27 #[.int .i64 0] ∧ Whole ((((X.setCell ⟨N, 0, none⟩ (.slice ao ys.length cap)).setCell ⟨N + 1, 0, none⟩ (.int .i64 0)).setCell ⟨N + 1 + 1, 0, none⟩ (.int .i64 0)).putObj D (.deferred none)) (N + 1 + 1) 3 #[.int .i64 0]) := Lib.hid ⟨
        (World.putObj_heap_other (by omega)).trans (((HI.out.r0.set 0 _).far (p := ⟨N + 1, 0, none⟩) (by show N ≠ N + 1; omega) _).far (p := ⟨N + 1 + 1, 0, none⟩) (by show N ≠ N + 1 + 1; omega) _),
        (World.putObj_heap_other (by omega)).trans (((HI.out.r1.far (p := ⟨N, 0, none⟩) (by show N + 1 ≠ N; omega) _).set 0 _).far (p := ⟨N + 1 + 1, 0, none⟩) (by show N + 1 ≠ N + 1 + 1; omega) _),
        (World.putObj_heap_other (by omega)).trans (((HI.out.r2.far (p := ⟨N, 0, none⟩) (by show N + 2 ≠ N; omega) _).far (p := ⟨N + 1, 0, none⟩) (by show N + 2 ≠ N + 1; omega) _).set 0 _)⟩
      clear q1 q2
      gi_wp2_with fail
      have hK' := ((((KeepsOthers.setCell X ⟨N, 0, none⟩ (.slice ao ys.length cap)).trans (KeepsOthers.setCell _ ⟨N + 1, 0, none⟩ (.int .i64 0))).trans (KeepsOthers.setCell _ ⟨N + 1 + 1, 0, none⟩ (.int .i64 0)))).same D _ hK rfl
      refine ⟨by simp, .inl ⟨_, _, rfl, run_takeDeferred hK', ?_⟩⟩
      have r3 := HWs.out.1.cell 0
      have r4 := HWs.out.2.1.cell 0
      have r5 := HWs.out.2.2.cell 0
      simp only [List.getElem?_toArray, List.getElem?_cons_zero] at r3 r4 r5
      refine ⟨.tuple #[.slice ao ys.length cap, .int .i64 0, .int .i64 0], by simp [results, Tryz.f38, go_sem, r3, r4, r5], ?_, Or.inr (Or.inr ⟨by omega, ys.map tkOf, ao, cap, HLx.out, by rw [List.length_map], ?_⟩)⟩
      · refine (((HI.out.low.setCell (p := ⟨N, 0, none⟩) (by show _ ≤ N; rw [HN.out]; exact Nat.le_refl _) (.slice ao ys.length cap)).setCell (p := ⟨N + 1, 0, none⟩) (by show _ ≤ N + 1; rw [HN.out]; omega) (.int .i64 0)).setCell (p := ⟨N + 1 + 1, 0, none⟩) (by show _ ≤ N + 1 + 1; rw [HN.out]; omega) (.int .i64 0)).trans ?_
        exact (only_put _ D _ (F := fun k => k = D) rfl).below (by have := HI.out.low.size; simp only [World.size_setCell]; omega) (fun k hk => by rw [hk, ← HN.out]; omega)
      · rw [List.length_map, HBack.out]
        refine row_far HRow.out (by rw [← HN.out]; omega) fun g cs hg hc => ?_
        have hgD : g ≠ D := fun h => by
          subst h
          have h1 := hK.symm.trans hc
          cases h1
        rw [World.putObj_heap_other hgD, Below.heap_setCell _ _ _ g (by show g ≠ N + 1 + 1; omega), Below.heap_setCell _ _ _ g (by show g ≠ N + 1; omega), Below.heap_setCell _ _ _ g (by show g ≠ N; omega)]
    case stop =>
      rintro D c pre X hD hS hI hK
      obtain ⟨rfl, ⟨ini, x, er, hpre, e2, e3, e4, w0, w1', w2'⟩, hlow⟩ := hI
      have HLx : Hid (Lex.lex T.data.toList = .error (er, x.2.2.1) ∧ er ≠ 0) := Lib.hid (by
        rcases hS with ⟨q, h⟩ | ⟨pre', x', hp, hw⟩
        · rw [hpre] at h
          have hx0 := (run_back h).2.2.2 x (by simp)
          rcases e4 with ⟨h1, _⟩ | ⟨_, h1, rfl⟩
          · exact absurd hx0 h1
          · exact ⟨lex_limit h h1, by decide⟩
        · rw [hpre] at hp
          obtain ⟨rfl, hx⟩ := List.append_inj' hp (by simp)
          simp only [List.cons.injEq, and_true] at hx
          subst hx
          obtain ⟨_, _, e, _, _, _, _, he, _, hxe⟩ := hw
          rcases e4 with ⟨h1, rfl⟩ | ⟨h1, _⟩
          · exact ⟨lex_wrong ⟨_, _, e, ‹_›, ‹_›, ‹_›, ‹_›, he, ‹_›, hxe⟩ e3, h1⟩
          · exact absurd (hxe ▸ h1) he)
      gi_wp2_with fail
      refine ⟨by simp, .inl ⟨_, _, rfl, run_takeDeferred hK, ?_⟩⟩
      have z0 : Whole (X.putObj D (.deferred none)) N 66 #[.slice none 0 0] := (World.putObj_heap_other (by omega)).trans w0
      have z1 : Whole (X.putObj D (.deferred none)) (N + 1) 27 #[.int .i64 er] := (World.putObj_heap_other (by omega)).trans w1'
      have z2 : Whole (X.putObj D (.deferred none)) (N + 1 + 1) 3 #[.int .i64 x.2.2.1] := (World.putObj_heap_other (by omega)).trans w2'
      have r3 := z0.cell 0
      have r4 := z1.cell 0
      have r5 := z2.cell 0
      simp only [List.getElem?_toArray, List.getElem?_cons_zero] at r3 r4 r5
      refine ⟨.tuple #[.slice none 0 0, .int .i64 er, .int .i64 x.2.2.1], by simp [results, Tryz.f38, go_sem, r3, r4, r5], ?_, Or.inr (Or.inl ⟨by omega, er, x.2.2.1, HLx.out.1, HLx.out.2, rfl⟩)⟩
      exact hlow.trans ((only_put _ D _ (F := fun k => k = D) rfl).below (by have := hlow.size; omega) (fun k hk => by rw [hk, ← HN.out]; omega))

end Go.Proofs.YtfkejnnbfneieaaGreatDoor

/- lexer.Lex as others call it; its tokens in memory. -/
namespace Go.Proofs.YtfkejnnbfneieaaGreatDoor
open Go.RowKit

theorem lex_any (T : ByteArray) (hT : T.size ≤ 1407374883512) (W : World) : Calls Tryz.prog 38 #[.string T] W (LexPost W T) := callsIn_wide.1 (lex_in T hT W)

theorem lex_err (T : ByteArray) (hT : T.size ≤ 20000) (x q : Nat) (hx : Lex.lex T.data.toList = .error (x, q)) (W : World) :
    Calls Tryz.prog 38 #[.string T] W fun e w' => e = .returned (.tuple #[.slice none 0 0, .int .i64 (x : Nat), .int .i64 (q : Nat)]) ∧ Below W.heap.size W w' :=
  (lex_any T (by omega) W).mono fun e w' ⟨hb, h⟩ => by
    rcases h with ⟨h1, _⟩ | ⟨_, x', q', h2, _, h3⟩ | ⟨_, l, ao, cap, h2, _⟩
    · omega
    · rw [hx] at h2; cases h2; exact ⟨h3, hb⟩
    · rw [hx] at h2; cases h2
/-- The tokens in memory. -/
def Toks (w : World) (B : Nat) (ao : Option Addr) (cap : Nat) (l : List Lex.Tk) : Prop := w.ownsRow B 71 3 (.slice ao l.length cap) l.length (cellsY (l.map fun x => ((x.1 : Int), ⟨x.2.1.toArray⟩, x.2.2, 0)))
theorem lex_ok (T : ByteArray) (hT : T.size ≤ 20000) (l : List Lex.Tk) (hx : Lex.lex T.data.toList = .ok l) (W : World) :
    Calls Tryz.prog 38 #[.string T] W fun e w' => ∃ ao cap, e = .returned (.tuple #[.slice ao l.length cap, .int .i64 0, .int .i64 0]) ∧ Toks w' W.heap.size ao cap l ∧ Below W.heap.size W w' :=
  (lex_any T (by omega) W).mono fun e w' ⟨hb, h⟩ => by
    rcases h with ⟨h1, _⟩ | ⟨_, x', q', h2, _, h3⟩ | ⟨_, l', ao, cap, h2, h3, h4⟩
    · omega
    · rw [hx] at h2; cases h2
    · rw [hx] at h2; cases h2; exact ⟨ao, cap, h3, h4, hb⟩

theorem cellsY_at : ∀ (l : List Lex.Tk) (j : Nat) (k : Nat) (t : List UInt8) (a : Nat), l[j]? = some (k, t, a) →
    (cellsY (l.map fun x => ((x.1 : Int), (⟨x.2.1.toArray⟩ : ByteArray), x.2.2, (0 : Nat))))[3 * j]? = some (.int .i64 k) ∧ (cellsY (l.map fun x => ((x.1 : Int), (⟨x.2.1.toArray⟩ : ByteArray), x.2.2, (0 : Nat))))[3 * j + 1]? = some (.string ⟨t.toArray⟩) ∧ (cellsY (l.map fun x => ((x.1 : Int), (⟨x.2.1.toArray⟩ : ByteArray), x.2.2, (0 : Nat))))[3 * j + 2]? = some (.int .i64 a)
  | x :: l, 0, k, t, a, h => by cases h; exact ⟨rfl, rfl, rfl⟩
  | x :: l, j + 1, k, t, a, h => by
    have ih := cellsY_at l j k t a h
    have e : ∀ i, (cellsY ((x :: l).map fun x => ((x.1 : Int), (⟨x.2.1.toArray⟩ : ByteArray), x.2.2, (0 : Nat))))[i + 3]? = (cellsY (l.map fun x => ((x.1 : Int), (⟨x.2.1.toArray⟩ : ByteArray), x.2.2, (0 : Nat))))[i]? := fun i => rfl
    have e0 : 3 * (j + 1) = 3 * j + 3 := by omega
    rw [e0, e, show 3 * j + 3 + 1 = (3 * j + 1) + 3 by omega, e, show 3 * j + 3 + 2 = (3 * j + 2) + 3 by omega, e]
    exact ih
/-- One token in memory. -/
theorem toks_at {w : World} {B : Nat} {ao : Option Addr} {cap : Nat} {l : List Lex.Tk} (h : Toks w B ao cap l) {j k : Nat} {t : List UInt8} {a : Nat} (hj : l[j]? = some (k, t, a)) :
    ∃ g, ao = some ⟨g, 0, none⟩ ∧ B ≤ g ∧ g < w.heap.size ∧ w.cell? ⟨g, 3 * j, none⟩ = some (.int .i64 k) ∧ w.cell? ⟨g, 3 * j + 1, none⟩ = some (.string ⟨t.toArray⟩) ∧ w.cell? ⟨g, 3 * j + 2, none⟩ = some (.int .i64 a) := by
  have hjl := (List.getElem?_eq_some_iff.1 hj).1
  rcases h.2 with ⟨_, h0⟩ | ⟨g, cap', cur, hv, hB, hc, _, _, _, htk⟩
  · omega
  · injection hv with hv
    refine ⟨g, hv, hB, (Array.getElem?_eq_some_iff.1 hc).1, ?_⟩
    have hw : Whole w g 71 cur := hc
    have key : ∀ i v, i < l.length * 3 → (cellsY (l.map fun x => ((x.1 : Int), (⟨x.2.1.toArray⟩ : ByteArray), x.2.2, (0 : Nat))))[i]? = some v → w.cell? ⟨g, i, none⟩ = some v := fun i v hi hv => by
      rw [hw.cell, ← Array.getElem?_toList]
      rw [← htk, List.getElem?_take_of_lt hi] at hv
      exact hv
    obtain ⟨h1, h2, h3⟩ := cellsY_at l j k t a hj
    exact ⟨key _ _ (by omega) h1, key _ _ (by omega) h2, key _ _ (by omega) h3⟩
end Go.Proofs.YtfkejnnbfneieaaGreatDoor

/- How many tokens a text has, and how long their texts are. -/
namespace Go.Proofs.YtfkejnnbfneieaaGreatDoor
open Go.RowKit

namespace Lex
theorem Laid.few {p : Nat} {s : List UInt8} {l : List Tk} (h : Laid p s l) : l.length ≤ s.length ∧ ∀ x ∈ l, x.2.2 ≤ p + s.length := by
  induction h with
  | nil p s h => exact ⟨Nat.zero_le _, fun x hx => by simp at hx⟩
  | cons p g w rest k t l hg hw hn h ih =>
    have hw1 : 1 ≤ w.length := by
      cases w with
      | nil => exact absurd rfl hn
      | cons c w => simp
    refine ⟨?_, fun x hx => ?_⟩
    · rw [List.length_cons, List.length_append, List.length_append]; have := ih.1; omega
    · rw [List.length_append, List.length_append]
      rcases List.mem_cons.1 hx with h1 | h1
      · rw [h1]; show p + g.length ≤ _; omega
      · have := ih.2 x h1; omega
theorem lex_few {s : List UInt8} {l : List Tk} (h : lex s = .ok l) : l.length ≤ s.length ∧ ∀ x ∈ l, x.2.2 ≤ s.length := by
  have := (lexF_laid _ 0 0 s l (Nat.lt_succ_self _) h).few
  exact ⟨this.1, fun x hx => by have := this.2 x hx; omega⟩
theorem encC_pos (c : UInt8) : 1 ≤ (encC c).length := by
  unfold encC
  split
  · simp
  · split
    · simp
    · split <;> simp
theorem enc_low (t : List UInt8) : t.length ≤ (enc t).length := by
  induction t with
  | nil => simp
  | cons c t ih =>
    rw [enc_cons, List.length_append, List.length_cons]
    have := encC_pos c
    omega
theorem tok_text {c : UInt8} {r : List UInt8} {k : Nat} {t rest : List UInt8} (h : tok c r = .ok k t rest) : t.length ≤ r.length + 1 := by
  have tw : ∀ p : UInt8 → Bool, (r.takeWhile p).length ≤ r.length := fun p => (List.takeWhile_prefix p).length_le
  unfold tok at h
  split at h
  · split at h
    · cases h
    · simp only [Res.ok.injEq] at h
      obtain ⟨_, rfl, _⟩ := h
      have := tw isWord
      simp; omega
  · split at h
    · split at h
      · cases h
      · simp only [Res.ok.injEq] at h
        obtain ⟨_, rfl, _⟩ := h
        have := tw isDigit
        simp; omega
    · split at h
      · split at h
        · rename_i x hx
          simp only [Res.ok.injEq] at h
          obtain ⟨_, rfl, _⟩ := h
          have h1 := strD_canon r x hx
          have h2 := enc_low x.1
          rw [h1, List.length_append, List.length_cons]
          omega
        · cases h
      · split at h
        · simp only [Res.ok.injEq] at h
          obtain ⟨_, rfl, _⟩ := h
          simp
        · cases h
theorem lexF_text : ∀ (f p n : Nat) (s : List UInt8) (l : List Tk), lexF f p n s = .ok l → ∀ x ∈ l, x.2.1.length ≤ s.length
  | 0, _, _, _, l, h, x, hx => by cases h; cases hx
  | f + 1, p, n, s, l, h, x, hx => by
    unfold lexF at h
    cases hs : skip false s with
    | nil => rw [hs] at h; cases h; cases hx
    | cons c r =>
      rw [hs] at h
      dsimp only at h
      have h1 := skip_len false s
      rw [hs, List.length_cons] at h1
      cases ht : tok c r with
      | err e => rw [ht] at h; cases h
      | ok k t rest =>
        rw [ht] at h
        dsimp only at h
        have h2 := tok_len ht
        have h3 := tok_text ht
        split at h
        · cases h
        · obtain ⟨y, h4, rfl⟩ := map_ok h
          rcases List.mem_cons.1 hx with rfl | hx
          · show t.length ≤ _; omega
          · have := lexF_text f _ _ _ _ h4 x hx; omega
theorem lex_text {s : List UInt8} {l : List Tk} (h : lex s = .ok l) : ∀ x ∈ l, x.2.1.length ≤ s.length := lexF_text _ _ _ _ _ h
end Lex
end Go.Proofs.YtfkejnnbfneieaaGreatDoor
