/- A range over an iterator that writes a block of its own between two rounds. -/
import Derived.Test.YtbnofoncapaabaaGreatDoorOnly
import Derived.RangeFuncNested
import Derived.RangeFuncLeaves
namespace Go.Proofs.YtbnofoncapaabaaGreatDoor
open Go.RowKit

/-- A block from B on that is no row of cells: a loop's record, or its list of deferred calls. -/
def Book (B : Nat) (W : World) (k : Nat) : Prop := B ≤ k ∧ ∃ o, W.heap[k]? = some o ∧ o.isCells = false
/-- What may happen to a caller's memory without its notice: the books, and the iterator's own block. -/
def Steady {α : Type} (B b : Nat) (I : α → World → Prop) : Prop := (∀ s W W', I s W → Only (Book B W) W W' → I s W') ∧ ∀ s W W', I s W → Only (fun x => x = b) W W' → I s W'

theorem only_put (W : World) (l : Nat) (o : Obj) {F : Nat → Prop} (h : F l) : Only F W (W.putObj l o) :=
  ⟨rfl, rfl, rfl, by rw [World.putObj_size]; exact Nat.le_refl _, fun k _ hf => World.putObj_heap_other (fun e => hf (e ▸ h))⟩
theorem only_more (W : World) (o : Obj) (F : Nat → Prop) : Only F W (W.alloc o) := ⟨rfl, rfl, rfl, by rw [size_alloc]; omega, fun k hk _ => Below.heap_alloc W o k hk⟩

section
variable {α : Type} {F : Fence} {n : Nat} {P : Program}
/-- The contract of an iterator that writes block b. -/
def SeqMut (F : Fence) (n : Nat) (P : Program) (b : Nat) (g : Nat) (lb : Array Value) (encs : α → Array Value) (Kp : World → World → Prop) (S Sp : List α → Prop) (w : World) : Prop :=
  ∀ (l : Nat) (J Jx : List α → World → Prop) (W : World), Below w.heap.size w W → (∀ s A B, J s A → Only (fun x => x = b) A B → J s B) → (∀ s A B, Jx s A → Only (fun x => x = b) A B → Jx s B) →
    (∀ pre x A, J pre A → YieldAt F (n - 1) P l (encs x) A fun e B => (e = .returned (.bool true) ∧ J (pre ++ [x]) B ∧ Kp A B) ∨ (e = .returned (.bool false) ∧ Jx (pre ++ [x]) B)) →
    J [] W →
    CallsIn F n P g (#[.func (.yield l) #[] #[]] ++ lb) W fun e B => (∃ v, e = .returned v) ∧ ((∃ xs, S xs ∧ J xs B) ∨ (∃ pre, Sp pre ∧ Jx pre B))

theorem wpIn_range_mut {g : Operand} {ps : Array Tmp} {assign body : Code} {Q : Exit → Act → World → Prop} {a : Act} {w : World} {b : Nat} (hbw : b < w.heap.size)
    (hro : F.round = none) (h1 : 1 ≤ n) {gf : Nat} {lb : Array Value} (hg : a.eval g = .func (.func gf) #[] lb) (hFg : F.fn gf) (eg : ∀ args w, (callFunc gf args).run P w = .ok (.enter gf args) w)
    {encs : α → Array Value} {Kp : World → World → Prop} {S Sp : List α → Prop} (hseq : SeqMut F (n - 1) P b gf lb encs Kp S Sp w)
    (hKt : ∀ {A B C : World}, Kp A B → Kp B C → Kp A C) (hKb : ∀ (W : World) (l : Nat) (o : Obj), w.heap.size ≤ l → Kp W (W.putObj l o)) (hps : ∀ x, (encs x).size = ps.size)
    (I : List α → World → Prop) (Ix : Code → List α → World → Prop) (hI : Steady w.heap.size b I) (hIx : ∀ c, Steady w.heap.size b (Ix c)) (h0 : I [] w)
    (hround : ∀ (l : Nat) (pre : List α) (x : α) (W : World), I pre W → w.heap.size ≤ l → Book w.heap.size W l →
      assign.wpIn (F.inRound l) (n - 1 - 1) P (Exit.then (fun A W1 => KeepsFrom w.heap.size W W1 ∧ ∀ o, body.wpIn (F.inRound l) (n - 1 - 1) P (ownPostG w.heap.size (fun _ W3 => Kp W W3) I Ix (pre ++ [x]) (W1.putObj l o)) A (W1.putObj l o)) (fun _ _ _ => False)) { tmps := (ps.zip (encs x)).foldl (fun t (p, v) => t.setIfInBounds p v) a.tmps, defers := [] } W)
    (hdone : ∀ (D : Nat) (xs : List α) (W : World), w.heap.size ≤ D → S xs → I xs W → W.heap[D]? = some (.deferred (some [])) → Q .normal { a with defers := { target := .collected D, args := #[] } :: a.defers } W)
    (hstop : ∀ (D : Nat) (c : Code) (pre : List α) (W : World), w.heap.size ≤ D → Sp pre → Ix c pre W → W.heap[D]? = some (.deferred (some [])) → c.wpIn F n P Q { a with defers := { target := .collected D, args := #[] } :: a.defers } W) :
    (Code.rangeFunc g ps assign body).wpIn F n P Q a w := by
  refine wpIn_rangeFunc fun fn hfn => ?_
  rw [hro]
  obtain ⟨N, hN⟩ : ∃ N, N = w.heap.size := ⟨_, rfl⟩
  obtain ⟨rec, hrec⟩ : ∃ rec : LoopState → Option Code → Loop, rec = fun st pe => { state := st, pending := pe, fn, tmps := a.tmps, params := ps, assign, body, defers := N } := ⟨_, rfl⟩
  obtain ⟨W1, hW1⟩ : ∃ W1, W1 = (w.alloc (.deferred (some []))).alloc (.loop (rec .ready none)) := ⟨_, rfl⟩
  have hbel : Below w.heap.size w W1 := by rw [hW1]; exact ((Below.refl _ _).alloc (Nat.le_refl _) _).alloc (by rw [size_alloc]; omega) _
  have only0 : Only (fun _ => False) w W1 := by rw [hW1]; exact (only_more _ _ _).trans (only_more _ _ _)
  have hD : W1.heap[N]? = some (.deferred (some [])) := by
    rw [hW1, Below.heap_alloc _ _ _ (by rw [size_alloc]; omega), hN]; exact World.alloc_heap_new w _
  have hL : W1.heap[N + 1]? = some (.loop (rec .ready none)) := by
    rw [hW1]
    have := World.alloc_heap_new (w.alloc (.deferred (some []))) (.loop (rec .ready none))
    rwa [World.size_alloc, ← hN] at this
  refine ⟨N + 1, [{ target := .collected N, args := #[] }], W1, { target := .fn (.func gf) lb, args := #[.func (.yield (N + 1)) #[] #[]] }, W1, gf, #[.func (.yield (N + 1)) #[] #[]] ++ lb, W1, ?_, ?_, ?_, ?_, fun _ => h1, ?_⟩
  · rw [hW1, hrec, hN]; exact run_enterLoop_outer _ _ _ _ _
  · simp only [resolve, hg]
    simp [go_sem]
  · intro f' hf'
    simp [Target.leads] at hf'
    exact hf' ▸ hFg
  · simp [invoke, go_sem, eg]
  · have isl : ∀ (W : World) (st : LoopState) (pe : Option Code), W.heap[N + 1]? = some (.loop (rec st pe)) → Book w.heap.size W (N + 1) := fun W st pe h => ⟨by omega, _, h, rfl⟩
    refine (hseq (N + 1)
      (fun pre W => I pre W ∧ W.heap[N + 1]? = some (.loop (rec .ready none)) ∧ W.heap[N]? = some (.deferred (some [])))
      (fun pre W => ∃ c, Ix c pre W ∧ W.heap[N + 1]? = some (.loop (rec .done (some c))) ∧ W.heap[N]? = some (.deferred (some [])))
      W1 hbel ?_ ?_ ?_ ⟨hI.1 [] w W1 h0 (only0.mono fun _ h => h.elim), hL, hD⟩).mono ?_
    · rintro s A B ⟨x1, x2, x3⟩ ho
      exact ⟨hI.2 s A B x1 ho, (ho.block _ (Array.getElem?_eq_some_iff.1 x2).1 (by omega)).trans x2, (ho.block _ (Array.getElem?_eq_some_iff.1 x3).1 (by omega)).trans x3⟩
    · rintro s A B ⟨c, x1, x2, x3⟩ ho
      exact ⟨c, (hIx c).2 s A B x1 ho, (ho.block _ (Array.getElem?_eq_some_iff.1 x2).1 (by omega)).trans x2, (ho.block _ (Array.getElem?_eq_some_iff.1 x3).1 (by omega)).trans x3⟩
    · rintro pre x A ⟨x1, x2, x3⟩
      have hy := run_yield (P := P) (args := encs x) x2 (by rw [hrec]; exact hps x)
      rw [hrec] at hy
      refine ⟨fn, _, assign, body, hy, roundIn_of_wpIn hfn (wpIn_mono (hround (N + 1) pre x A x1 (by omega) (isl A _ _ x2)) fun e A1 B1 h => ?_)⟩
      cases e with
      | normal =>
        obtain ⟨hk, hb⟩ := h
        have y2 := hk.same (N + 1) _ (by omega) x2 rfl
        have y3 := hk.same N _ (by omega) x3 rfl
        refine ⟨_, run_beginRound y2 (by rw [hrec]), wpIn_mono (hb _) fun e A2 B2 hp => ?_⟩
        have ylt := (Array.getElem?_eq_some_iff.1 y2).1
        have z2 : (B1.putObj (N + 1) (.loop { rec .ready none with state := .busy })).heap[N + 1]? = some (.loop { rec .ready none with state := .busy }) := World.putObj_heap_same ylt
        have z3 : (B1.putObj (N + 1) (.loop { rec .ready none with state := .busy })).heap[N]? = some (.deferred (some [])) := (World.putObj_heap_other (by omega)).trans y3
        have close : ∀ (jump : Option Code) (C : World), KeepsFrom w.heap.size (B1.putObj (N + 1) (.loop { rec .ready none with state := .busy })) C → ∃ C', (Instr.endRound (N + 1) jump).run P C = .ok (.bool jump.isNone) C' ∧ C' = C.putObj (N + 1) (.loop (rec (if jump.isNone then .ready else .done) jump)) ∧ Book w.heap.size C (N + 1) ∧ C'.heap[N + 1]? = some (.loop (rec (if jump.isNone then .ready else .done) jump)) ∧ C'.heap[N]? = some (.deferred (some [])) := by
          intro jump C hC
          have u2 := hC.same (N + 1) _ (by omega) z2 rfl
          have u3 := hC.same N _ (by omega) z3 rfl
          have := run_endRound (P := P) jump u2
          rw [hrec] at this u2 ⊢
          exact ⟨_, this, rfl, ⟨by omega, _, u2, rfl⟩, World.putObj_heap_same (Array.getElem?_eq_some_iff.1 u2).1, (World.putObj_heap_other (by omega)).trans u3⟩
        have leave : ∀ (c : Code), KeepsFrom w.heap.size (B1.putObj (N + 1) (.loop { rec .ready none with state := .busy })) B2 ∧ Ix c (pre ++ [x]) B2 → ∃ v w', (Instr.endRound (N + 1) (some c)).run P B2 = .ok v w' ∧ ((Ending.returned v = .returned (.bool true) ∧ (I (pre ++ [x]) w' ∧ w'.heap[N + 1]? = some (.loop (rec .ready none)) ∧ w'.heap[N]? = some (.deferred (some []))) ∧ Kp A w') ∨ (Ending.returned v = .returned (.bool false) ∧ ∃ c, Ix c (pre ++ [x]) w' ∧ w'.heap[N + 1]? = some (.loop (rec .done (some c))) ∧ w'.heap[N]? = some (.deferred (some [])))) := by
          rintro c ⟨k1, k2⟩
          obtain ⟨C', r1, rfl, r3, r4, r5⟩ := close (some c) B2 k1
          exact ⟨_, _, r1, .inr ⟨rfl, c, (hIx c).1 _ _ _ k2 (only_put B2 (N + 1) _ r3), r4, r5⟩⟩
        cases e with
        | normal =>
          obtain ⟨k1, k2, k3⟩ := hp
          obtain ⟨C', r1, rfl, r3, r4, r5⟩ := close none B2 k1
          exact ⟨_, _, r1, .inl ⟨rfl, ⟨hI.1 _ _ _ k3 (only_put B2 (N + 1) _ r3), r4, r5⟩, hKt k2 (hKb _ _ _ (by omega))⟩⟩
        | ret => exact leave .ret hp
        | exit id => exact leave (.exit id) hp
        | goto t => exact leave (.goto t) hp
        | panic ch => exact hp.elim
        | outgrown => exact hp.elim
      | _ => exact h.elim
    · rintro e B ⟨⟨v, rfl⟩, h⟩
      rcases h with ⟨xs, hS, x1, x2, x3⟩ | ⟨pre, hS, c, x1, x2, x3⟩
      · have hr := run_endLoop (P := P) x2 (by rw [hrec]; simp)
        refine ⟨_, _, hr, ?_⟩
        rw [hrec]
        exact hdone N xs _ (by omega) hS (hI.1 _ _ _ x1 (only_put B (N + 1) _ (isl B _ _ x2))) ((World.putObj_heap_other (by omega)).trans x3)
      · have hr := run_endLoop (P := P) x2 (by rw [hrec]; simp)
        refine ⟨_, _, hr, ?_⟩
        rw [hrec]
        exact hstop N c pre _ (by omega) hS ((hIx c).1 _ _ _ x1 (only_put B (N + 1) _ (isl B _ _ x2))) ((World.putObj_heap_other (by omega)).trans x3)
end

end Go.Proofs.YtbnofoncapaabaaGreatDoor
