/- What a valid event's fields are: events with one field changed. -/
import Derived.Test.YtbnofoncapaabaaGreatDoorEvtValid
import Derived.Test.YtbnofoncapaabaaGreatDoorRunW
import Derived.Test.YtbnofoncapaabaaGreatDoorJoin
namespace Go.Proofs.YtbnofoncapaabaaGreatDoor
open Go.RowKit
open Evt

namespace Evt
/-- An operation that needs no further fields. -/
def bareB (n : Int) : Bool := decide (n = 3) || (decide (n = 4) || (decide (n = 5) || decide (n = 7)))
def NoUse (e : Ev) : Prop := e.k0 = 0 ∧ e.k1 = 0 ∧ e.c0 = 0 ∧ e.c1 = 0 ∧ e.d0 = 0 ∧ e.d1 = 0
instance (e : Ev) : Decidable (NoUse e) := by unfold NoUse; infer_instance
theorem bareB_iff {n : Int} : bareB n = true ↔ n = 3 ∨ n = 4 ∨ n = 5 ∨ n = 7 := by simp [bareB]
theorem rest_iff (e : Ev) : restOf e = zero ↔ (e.op = 1 ∨ e.kind = emp) ∧ (e.op = 2 ∨ (e.into = emp ∧ e.slot = emp)) ∧ (e.op = 6 ∨ (e.key = emp ∧ e.value = emp)) ∧ (e.op = 4 ∨ NoUse e) := by
  obtain ⟨op, day, part, kind, into, slot, key, value, k0, k1, c0, c1, d0, d1⟩ := e
  unfold restOf zero NoUse
  dsimp only
  by_cases h1 : op = 1
  · subst h1; simp [emp, and_assoc]
  by_cases h2 : op = 2
  · subst h2; simp [emp, and_assoc]
  by_cases h4 : op = 4
  · subst h4; simp [emp, and_assoc]
  by_cases h6 : op = 6
  · subst h6; simp [emp, and_assoc]
  simp [emp, h1, h2, h4, h6, and_assoc]
theorem ok_iff (e : Ev) : okE e = true ↔ (e.op = 1 → nm e.kind = true) ∧ (e.op = 2 → nm e.into = true ∧ (e.into.toList != e.part.toList) = true ∧ nm e.slot = true) ∧
    (e.op = 4 → (isUse e.k0 e.k1 = true ∧ isUse e.c0 e.c1 = true ∧ isUse e.d0 e.d1 = true)) ∧ (e.op = 6 → nm e.key = true ∧ (!e.value.toList.isEmpty && decide ((e.value.size : Int) ≤ 200)) = true) := by
  unfold okE
  by_cases h1 : e.op = 1
  · simp [h1]
  by_cases h2 : e.op = 2
  · simp only [h2]; simp
  by_cases h4 : e.op = 4
  · simp [h4]
  by_cases h6 : e.op = 6
  · simp [h6]
  simp [h1, h2, h4, h6]
theorem valid_iff (e : Ev) : valid e = true ↔ (1 ≤ e.op ∧ e.op ≤ 7) ∧ (0 ≤ e.day ∧ e.day ≤ 40000) ∧ nm e.part = true ∧ okE e = true ∧ restOf e = zero := by
  unfold valid
  simp only [Bool.and_eq_true, Bool.not_eq_true', decide_eq_false_iff_not, evEq_iff]
  constructor
  · rintro ⟨h1, h2, h3, h4, h5, h6, h7⟩
    exact ⟨⟨by omega, by omega⟩, ⟨by omega, by omega⟩, h5, h6, h7⟩
  · rintro ⟨⟨h1, h2⟩, ⟨h3, h4⟩, h5, h6, h7⟩
    exact ⟨by omega, by omega, by omega, by omega, h5, h6, h7⟩
theorem nm_emp : nm emp = false := by decide
theorem no_nm {s : ByteArray} (h : nm s = true) (he : s = emp) : False := by
  rw [he] at h
  exact absurd h (by decide)
theorem valid_other {x : Ev} (h : valid x = true) {n : Int} (hn : n ≠ x.op) : valid { x with op := n } = (bareB n && (bareB x.op && decide (NoUse x))) := by
  obtain ⟨ho, hd, hp, hk, hr⟩ := (valid_iff x).1 h
  obtain ⟨k1, k2, k4, k6⟩ := (ok_iff x).1 hk
  obtain ⟨r1, r2, r6, r4⟩ := (rest_iff x).1 hr
  rw [Bool.eq_iff_iff, Bool.and_eq_true, Bool.and_eq_true, bareB_iff, bareB_iff, decide_eq_true_eq, valid_iff, ok_iff, rest_iff]
  dsimp only
  constructor
  · rintro ⟨hn1, -, -, ⟨j1, j2, j4, j6⟩, s1, s2, s6, s4⟩
    have n1 : n ≠ 1 := fun e => by
      rcases r1 with q | q
      · exact hn (e.trans q.symm)
      · exact no_nm (j1 e) q
    have n2 : n ≠ 2 := fun e => by
      rcases r2 with q | q
      · exact hn (e.trans q.symm)
      · exact no_nm (j2 e).1 q.1
    have n6 : n ≠ 6 := fun e => by
      rcases r6 with q | q
      · exact hn (e.trans q.symm)
      · exact no_nm (j6 e).1 q.1
    have x1 : x.op ≠ 1 := fun e => by
      rcases s1 with q | q
      · exact n1 q
      · exact no_nm (k1 e) q
    have x2 : x.op ≠ 2 := fun e => by
      rcases s2 with q | q
      · exact n2 q
      · exact no_nm (k2 e).1 q.1
    have x6 : x.op ≠ 6 := fun e => by
      rcases s6 with q | q
      · exact n6 q
      · exact no_nm (k6 e).1 q.1
    refine ⟨by omega, by omega, ?_⟩
    rcases r4 with q | q
    · rcases s4 with p | p
      · exact absurd (p.trans q.symm) hn
      · exact p
    · exact q
  · rintro ⟨hn1, hx, hu⟩
    refine ⟨by omega, hd, hp, ⟨fun e => by omega, fun e => by omega, fun _ => ?_, fun e => by omega⟩, Or.inr ?_, Or.inr ?_, Or.inr ?_, Or.inr hu⟩
    · obtain ⟨u1, u2, u3, u4, u5, u6⟩ := hu
      rw [u1, u2, u3, u4, u5, u6]
      exact ⟨by decide, by decide, by decide⟩
    · exact r1.resolve_left (by omega)
    · exact r2.resolve_left (by omega)
    · exact r6.resolve_left (by omega)
theorem valid_late {x : Ev} (h : valid x = true) (n : Int) : valid { x with day := n } = (decide (0 ≤ n) && decide (n ≤ 40000)) := by
  obtain ⟨ho, hd, hp, hk, hr⟩ := (valid_iff x).1 h
  rw [Bool.eq_iff_iff, Bool.and_eq_true, decide_eq_true_eq, decide_eq_true_eq, valid_iff]
  dsimp only
  exact ⟨fun q => q.2.1, fun q => ⟨ho, q, hp, (ok_iff _).2 ((ok_iff x).1 hk), (rest_iff _).2 ((rest_iff x).1 hr)⟩⟩
theorem valid_nobody (x : Ev) : valid { x with part := emp } = false := by
  rw [Bool.eq_false_iff]
  intro h
  exact no_nm ((valid_iff _).1 h).2.2.1 rfl
theorem valid_kind {x : Ev} (h1 : x.op ≠ 1) {s : ByteArray} (hs : s ≠ emp) : valid { x with kind := s } = false := by
  rw [Bool.eq_false_iff]
  intro h
  rcases ((rest_iff _).1 ((valid_iff _).1 h).2.2.2.2).1 with q | q
  · exact h1 q
  · exact hs q
theorem valid_slot {x : Ev} (h1 : x.op ≠ 2) {s : ByteArray} (hs : s ≠ emp) : valid { x with slot := s } = false := by
  rw [Bool.eq_false_iff]
  intro h
  rcases ((rest_iff _).1 ((valid_iff _).1 h).2.2.2.2).2.1 with q | q
  · exact h1 q
  · exact hs q.2
theorem valid_key {x : Ev} (h1 : x.op ≠ 6) {s : ByteArray} (hs : s ≠ emp) : valid { x with key := s } = false := by
  rw [Bool.eq_false_iff]
  intro h
  rcases ((rest_iff _).1 ((valid_iff _).1 h).2.2.2.2).2.2.1 with q | q
  · exact h1 q
  · exact hs q.1
theorem valid_use {x : Ev} (h1 : x.op ≠ 4) {n : Int} (hn : n ≠ 0) : valid { x with k1 := n } = false := by
  rw [Bool.eq_false_iff]
  intro h
  rcases ((rest_iff _).1 ((valid_iff _).1 h).2.2.2.2).2.2.2 with q | q
  · exact h1 q
  · exact hn q.2.1
theorem valid_run {x : Ev} (h : valid x = true) (h4 : x.op = 4) (n : Int) : valid { x with k1 := n } = (decide (x.k0 ≤ n) && decide (n ≤ 1000000)) := by
  obtain ⟨ho, hd, hp, hk, hr⟩ := (valid_iff x).1 h
  obtain ⟨k1, k2, k4, k6⟩ := (ok_iff x).1 hk
  obtain ⟨r1, r2, r6, r4⟩ := (rest_iff x).1 hr
  have hu := (k4 h4).1
  unfold isUse at hu
  simp only [Bool.and_eq_true, decide_eq_true_eq] at hu
  rw [Bool.eq_iff_iff, Bool.and_eq_true, decide_eq_true_eq, decide_eq_true_eq, valid_iff, ok_iff, rest_iff]
  dsimp only
  constructor
  · rintro ⟨-, -, -, ⟨-, -, j4, -⟩, -⟩
    have := (j4 h4).1
    unfold isUse at this
    simp only [Bool.and_eq_true, decide_eq_true_eq] at this
    exact this.2
  · rintro ⟨g1, g2⟩
    exact ⟨ho, hd, hp, ⟨k1, k2, fun e => ⟨by unfold isUse; simp only [Bool.and_eq_true, decide_eq_true_eq]; exact ⟨hu.1, g1, g2⟩, (k4 e).2⟩, k6⟩, r1, r2, r6, Or.inl h4⟩
theorem valid_make {x : Ev} (h : valid x = true) (h1 : x.op = 1) (s : ByteArray) : valid { x with kind := s } = nm s := by
  obtain ⟨ho, hd, hp, hk, hr⟩ := (valid_iff x).1 h
  obtain ⟨k1, k2, k4, k6⟩ := (ok_iff x).1 hk
  obtain ⟨r1, r2, r6, r4⟩ := (rest_iff x).1 hr
  rw [Bool.eq_iff_iff, valid_iff, ok_iff, rest_iff]
  dsimp only
  exact ⟨fun q => q.2.2.2.1.1 h1, fun q => ⟨ho, hd, hp, ⟨fun _ => q, k2, k4, k6⟩, Or.inl h1, r2, r6, r4⟩⟩
end Evt
end Go.Proofs.YtbnofoncapaabaaGreatDoor

/- What EventFields' walk calls and compares; guards whose values are known. -/
namespace Go.Proofs.YtbnofoncapaabaaGreatDoor
open Go.ChangeShapes Go.WideShapes Go.ChangeAt Go.RowKit Go.Deep
open Evt

section
variable {ops : Array Oper} {L : List EKey} {prop : Nat → (Nat → Value) → World → Prop} {pv : Nat → Value → Prop} {e : Ent} {w : World}
theorem know_free (hT : EFacts ops L prop pv e w) {k : Nat} {v : Value} (h : e k ≠ none) (hg : (guardOf ops k == none) = true) (hp : ∀ u, pv k u → u = v) : e k = some v := by
  obtain ⟨u, hu⟩ := Option.ne_none_iff_exists'.1 h
  rw [hu, hp u (hT.pure k u hu (want_free hg))]
theorem know_dep (hT : EFacts ops L prop pv e w) {k g : Nat} {b : Bool} {v : Value} (h : e k ≠ none) (hgd : guardOf ops k = some (g, b)) (hg : e g = some (.bool b)) (hp : ∀ u, pv k u → u = v) : e k = some v := by
  obtain ⟨u, hu⟩ := Option.ne_none_iff_exists'.1 h
  rw [hu, hp u (hT.pure k u hu fun g' b' h' => by rw [hgd] at h'; cases h'; exact hg)]
end
section
variable (d : Option Tmp) (t : TypeId) (pos : String) (af : Array Edge) (g : Option (Nat × Bool)) (A : Act) (w : World)
theorem rNeqInt (T U : TypeId) (x y : Operand) (a b : Int) (r : Bool) (hr : (a != b) = r) (hx : A.eval x = .int .i64 a) (hy : A.eval y = .int .i64 b) : (execOp A.eval ⟨d, .binOp .neq T x y U, t, pos, af, g⟩).run Tryz.prog w = .ok (.value (.bool r)) w := by
  subst hr
  unfold execOp
  simp only [hx, hy]
  go_simp
theorem rGeqInt (T U : TypeId) (x y : Operand) (a b : Int) (r : Bool) (hr : decide (b ≤ a) = r) (hx : A.eval x = .int .i64 a) (hy : A.eval y = .int .i64 b) : (execOp A.eval ⟨d, .binOp .geq T x y U, t, pos, af, g⟩).run Tryz.prog w = .ok (.value (.bool r)) w := by
  subst hr
  unfold execOp
  simp only [hx, hy]
  go_simp
theorem rLeqInt (T U : TypeId) (x y : Operand) (a b : Int) (r : Bool) (hr : decide (a ≤ b) = r) (hx : A.eval x = .int .i64 a) (hy : A.eval y = .int .i64 b) : (execOp A.eval ⟨d, .binOp .leq T x y U, t, pos, af, g⟩).run Tryz.prog w = .ok (.value (.bool r)) w := by
  subst hr
  unfold execOp
  simp only [hx, hy]
  go_simp
end
theorem rEqlBoolU (d : Option Tmp) (t : TypeId) (pos : String) (af : Array Edge) (g : Option (Nat × Bool)) (A : Act) (w : World) (x y : Operand) (a : Bool) (hx : A.eval x = .bool a) (hy : A.eval y = .bool a) : (execOp A.eval ⟨d, .binOp .eql 4 x y 4, t, pos, af, g⟩).run Tryz.prog w = .ok (.value (.bool true)) w := by
  cases a
  all_goals
    unfold execOp
    simp only [hx, hy]
    go_simp
/-- A use's cells. -/
def useC (e : Ev) : List Value := [.int .i64 e.k0, .int .i64 e.k1, .int .i64 e.c0, .int .i64 e.c1, .int .i64 e.d0, .int .i64 e.d1]
theorem use_keyT : Tryz.prog.keyTypeAt 4 25 = true := by kernel_rfl
set_option maxRecDepth 100000 in
theorem use_wide : (match Tryz.prog.underlying 25 with | some (.array _ _) | some (.struct _) => true | _ => false) = true := by kernel_rfl
set_option maxRecDepth 100000 in
theorem use_law : WideMaps.KeyLaw Tryz.prog 25 := deep_law_laid laidOut (m := 4) (by omega) (by decide +kernel) use_keyT use_wide
set_option maxRecDepth 100000 in
theorem use_key {e : Ev} (h : Sz e) : ∃ l, keyOf Tryz.prog 25 (.agg (useC e).toArray) = some l := by
  have e1 : Tryz.prog.keyType 25 = true := by kernel_rfl
  obtain ⟨x0, x1, x2, x3, x4, x5, x6, x7, x8, x9, y0, y1, y2, y3⟩ := e
  obtain ⟨h0, h1, h2, h3, h4, h5, h6, h7, h8, h9, g0, g1, g2, g3⟩ := h
  have e2 : (Value.agg (useC ⟨x0, x1, x2, x3, x4, x5, x6, x7, x8, x9, y0, y1, y2, y3⟩).toArray).formed Tryz.prog 25 = true := by kernel_rfl
  obtain ⟨m, hm⟩ : ∃ m, Tryz.prog.types.size = m + 2 := ⟨Tryz.prog.types.size - 2, by decide +kernel⟩
  unfold keyOf
  rw [Tryz.underlying25]
  dsimp only
  rw [e1, e2]
  simp only [Bool.and_self, if_true, Program.keyLits, Tryz.underlying25]
  rw [if_pos ⟨by kernel_rfl, by kernel_rfl⟩, hm]
  simp [useC, Value.cells, eIvl, lits_ivl m h8 h9, lits_ivl m g0 g1, lits_ivl m g2 g3]
theorem useC_zero {e : Ev} : useC e = useC zero ↔ NoUse e := by
  unfold useC zero NoUse
  simp
theorem use_guard : Tryz.prog.eqGuardType Tryz.prog.depth 25 = false := by kernel_rfl
set_option maxRecDepth 100000 in
theorem use_eql {a : Ev} (ha : Sz a) (w : World) : (binOp .eql 25 (.agg (useC a).toArray) (.agg (useC zero).toArray)).run Tryz.prog w = .ok (.bool (decide (NoUse a))) w := by
  have h : (Op.equal 25 (.agg (useC a).toArray) (.agg (useC zero).toArray)).run Tryz.prog w = .ok (decide (NoUse a)) w := by
    obtain ⟨la, ka⟩ := use_key ha
    obtain ⟨lb, kb⟩ := use_key sz_zero
    obtain ⟨r, hr, hiff⟩ := run_equal_deep w (by omega) use_keyT use_wide ka kb
    rw [hr]
    congr 1
    have h2 : la = lb ↔ NoUse a := ⟨fun e => by
      subst e
      have := use_law.inj ka kb
      simp only [Value.agg.injEq, Array.mk.injEq] at this
      exact useC_zero.1 this, fun e => by
      have e2 := useC_zero.2 e
      rw [e2] at ka
      rw [ka] at kb; exact Option.some.inj kb⟩
    rw [h2] at hiff
    by_cases hn : NoUse a
    · rw [decide_eq_true hn]; exact hiff.2 hn
    · rw [decide_eq_false hn, Bool.eq_false_iff]; exact fun h => hn (hiff.1 h)
  show Sem.run Tryz.prog (do pure (Value.bool (← Op.equal 25 (.agg (useC a).toArray) (.agg (useC zero).toArray)))) w = _
  simp [h]
theorem run_allocF (d : Option Tmp) (t : TypeId) (pos : String) (af : Array Edge) (g : Option (Nat × Bool)) (A : Act) (w : World) : (execOp A.eval ⟨d, .alloc 27, t, pos, af, g⟩).run Tryz.prog w = .ok (.value (.pointer (some ⟨w.heap.size, 0, none⟩))) (w.alloc (.cells (evC zero).toArray 27)) := by
  have e : (evC zero).toArray = #[.int .i64 0, .int .i64 0, .string ⟨#[]⟩, .string ⟨#[]⟩, .string ⟨#[]⟩, .string ⟨#[]⟩, .string ⟨#[]⟩, .string ⟨#[]⟩, .int .i64 0, .int .i64 0, .int .i64 0, .int .i64 0, .int .i64 0, .int .i64 0] := rfl
  rw [e]
  simp [go_sem]
theorem run_eqUse (d : Option Tmp) (t : TypeId) (pos : String) (af : Array Edge) (g : Option (Nat × Bool)) (A : Act) (w : World) (x y : Operand) (a : Ev) (ha : Sz a) (hx : A.eval x = .agg (useC a).toArray) (hy : A.eval y = .agg (useC zero).toArray) :
    (execOp A.eval ⟨d, .binOp .eql 25 x y 25, t, pos, af, g⟩).run Tryz.prog w = .ok (.value (.bool (decide (NoUse a)))) w := by
  have h := use_eql ha w
  have hg := use_guard
  unfold execOp
  simp only [hx, hy]
  simp [eqGuard, Sem.run_bind, h, hg]
theorem bare_any (n : Int) (W : World) : Calls Tryz.prog 14 #[.int .i64 n] W fun e w' => e = .returned (.bool (bareB n)) ∧ W = w' := by
  unfold bareB
  obtain ⟨b1, e1⟩ : ∃ x, decide (n = 3) = x := ⟨_, rfl⟩
  obtain ⟨b2, e2⟩ : ∃ x, decide (n = 4) = x := ⟨_, rfl⟩
  obtain ⟨b3, e3⟩ : ∃ x, decide (n = 5) = x := ⟨_, rfl⟩
  obtain ⟨b4, e4⟩ : ∃ x, decide (n = 7) = x := ⟨_, rfl⟩
  rw [e1, e2, e3, e4]
  have e1 : (n == 3) = b1 := by rw [← e1]; rfl
  have e2 : (n == 4) = b2 := by rw [← e2]; rfl
  have e3 : (n == 5) = b3 := by rw [← e3]; rfl
  have e4 : (n == 7) = b4 := by rw [← e4]; rfl
  go_enter Tryz.func14, Tryz.ntmps14
  cases b1
  · cases b2
    · cases b3
      all_goals
        go_wp2_with fail
        go_ret
        exact ⟨rfl, rfl⟩
    · go_wp2_with fail
      go_ret
      exact ⟨rfl, rfl⟩
  · go_wp2_with fail
    go_ret
    exact ⟨rfl, rfl⟩
end Go.Proofs.YtbnofoncapaabaaGreatDoor
