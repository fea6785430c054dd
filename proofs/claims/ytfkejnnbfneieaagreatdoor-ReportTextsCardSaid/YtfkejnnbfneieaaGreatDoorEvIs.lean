/- Events: as values, in memory, and as arguments; when two events are equal. -/
import Derived.Test.YtfkejnnbfneieaaGreatDoorMem
import Derived.Test.YtfkejnnbfneieaaGreatDoorMemCopy
import Derived.Test.YtfkejnnbfneieaaGreatDoorLexName
import Derived.Test.YtfkejnnbfneieaaGreatDoorShut
import Derived.DeepKeys4
import Derived.Maps.Keyed
namespace Go.Proofs.YtfkejnnbfneieaaGreatDoor
open Go.ChangeShapes Go.WideShapes Go.ChangeAt Go.RowKit Go.Deep

namespace Evt
structure Ev where
  op : Int
  day : Int
  part : ByteArray
  kind : ByteArray
  into : ByteArray
  slot : ByteArray
  key : ByteArray
  value : ByteArray
  k0 : Int
  k1 : Int
  c0 : Int
  c1 : Int
  d0 : Int
  d1 : Int
structure Rp where
  opts : List Ev
  doubt : Bool
/-- An integer of 64 bits. -/
def I64 (z : Int) : Prop := (Lit.int .i64 z).wf = true
def St (s : ByteArray) : Prop := s.size ≤ 9223372036854775807
structure Sz (e : Ev) : Prop where
  op : I64 e.op
  day : I64 e.day
  part : St e.part
  kind : St e.kind
  into : St e.into
  slot : St e.slot
  key : St e.key
  value : St e.value
  k0 : I64 e.k0
  k1 : I64 e.k1
  c0 : I64 e.c0
  c1 : I64 e.c1
  d0 : I64 e.d0
  d1 : I64 e.d1
/-- An event's cells. -/
def evC (e : Ev) : List Value := [.int .i64 e.op, .int .i64 e.day, .string e.part, .string e.kind, .string e.into, .string e.slot, .string e.key, .string e.value, .int .i64 e.k0, .int .i64 e.k1, .int .i64 e.c0, .int .i64 e.c1, .int .i64 e.d0, .int .i64 e.d1]
theorem evC_len (e : Ev) : (evC e).length = 14 := rfl
theorem evC_one (e : Ev) : (evC e).toArray.all (·.oneCell') = true := by simp [evC, Value.oneCell']
theorem evC_inj {a b : Ev} (h : evC a = evC b) : a = b := by
  obtain ⟨x0, x1, x2, x3, x4, x5, x6, x7, x8, x9, y0, y1, y2, y3⟩ := a
  obtain ⟨u0, u1, u2, u3, u4, u5, u6, u7, u8, u9, v0, v1, v2, v3⟩ := b
  unfold evC at h
  simp only [List.cons.injEq, Value.int.injEq, Value.string.injEq, true_and, and_true] at h
  obtain ⟨rfl, rfl, rfl, rfl, rfl, rfl, rfl, rfl, rfl, rfl, rfl, rfl, rfl, rfl⟩ := h
  rfl
/-- The event that is none. -/
def zero : Ev := ⟨0, 0, ⟨#[]⟩, ⟨#[]⟩, ⟨#[]⟩, ⟨#[]⟩, ⟨#[]⟩, ⟨#[]⟩, 0, 0, 0, 0, 0, 0⟩
end Evt
open Evt

def ElEv (_ : World) (cs : List Value) (e : Ev) : Prop := cs = evC e ∧ Sz e
def ElRp (W : World) (cs : List Value) (r : Rp) : Prop := ∃ oo oc, cs = [.slice oo r.opts.length oc, .bool r.doubt] ∧ IsL 14 ElEv W oo r.opts ∧ r.opts.length ≤ oc ∧ oc ≤ 9223372036854775807
theorem stEv : ElStable ElEv := fun _ _ _ _ h _ => h
theorem stRp : ElStable ElRp := fun _ _ _ _ ⟨oo, oc, h1, h2, h3⟩ hb => ⟨oo, oc, h1, h2.below stEv hb, h3⟩

theorem eStr : Tryz.prog.cellsOf 9 = 1 := by kernel_rfl
theorem eInt : Tryz.prog.cellsOf 3 = 1 := by kernel_rfl
theorem eBool : Tryz.prog.cellsOf 4 = 1 := by kernel_rfl
theorem eIvl : Tryz.prog.cellsOf 46 = 2 := by kernel_rfl
theorem eUse : Tryz.prog.cellsOf 48 = 6 := by kernel_rfl
section
variable {H : Type} {enc : TypeId × Value → H} {W : World} {base : Nat} {spare : Nat → Bool} {held : Bool} {v : Value} {d : DataW H} {p : List MemPlace}
theorem eopen_str {fuel : Nat} {cs : List Value} {x : DataW H × List MemPlace} (h : DataW.trod enc Tryz.prog W base spare held fuel 9 cs = some x) : ∃ s : ByteArray, cs = [.string s] ∧ St s := by
  obtain ⟨s, h1, _, h2⟩ := DataW.trod_string Tryz.underlying9 h
  exact ⟨s, h1, h2⟩
theorem eopen_int {fuel : Nat} {cs : List Value} {x : DataW H × List MemPlace} (h : DataW.trod enc Tryz.prog W base spare held fuel 3 cs = some x) : ∃ z : Int, cs = [.int .i64 z] ∧ I64 z := by
  obtain ⟨z, h1, _, h2⟩ := DataW.trod_int Tryz.underlying3 h
  exact ⟨z, h1, h2⟩
theorem eopen_bool {fuel : Nat} {cs : List Value} {x : DataW H × List MemPlace} (h : DataW.trod enc Tryz.prog W base spare held fuel 4 cs = some x) : ∃ b : Bool, cs = [.bool b] := by
  obtain ⟨b, h1, _⟩ := DataW.trod_bool Tryz.underlying4 h
  exact ⟨b, h1⟩
set_option maxRecDepth 100000 in
theorem eopen_ivl {fuel : Nat} {c0 c1 : Value} {x : DataW H × List MemPlace} (h : DataW.trod enc Tryz.prog W base spare held fuel 46 [c0, c1] = some x) : ∃ a b : Int, c0 = .int .i64 a ∧ c1 = .int .i64 b ∧ I64 a ∧ I64 b := by
  obtain ⟨_, n, hf⟩ := open_field Tryz.underlying46 h
  obtain ⟨y0, g0⟩ := fld hf 0 _ rfl (te := 3) (o := 0) rfl rfl eInt
  obtain ⟨y1, g1⟩ := fld hf 1 _ rfl (te := 3) (o := 1) rfl rfl eInt
  obtain ⟨a, e0, z0⟩ := eopen_int g0
  obtain ⟨b, e1, z1⟩ := eopen_int g1
  have e0 : [c0] = [.int .i64 a] := e0
  have e1 : [c1] = [.int .i64 b] := e1
  cases e0; cases e1
  exact ⟨a, b, rfl, rfl, z0, z1⟩
set_option maxRecDepth 100000 in
theorem eopen_ev {fuel : Nat} {cs : List Value} {x : DataW H × List MemPlace} (h : DataW.trod enc Tryz.prog W base spare held fuel 50 cs = some x) : ∃ k, ElEv W cs k := by
  obtain ⟨hl, n, hf⟩ := open_field Tryz.underlying50 h
  rw [show Tryz.prog.cellsOf 50 = 14 by kernel_rfl] at hl
  obtain ⟨y0, g0⟩ := fld hf 0 _ rfl (te := 3) (o := 0) rfl rfl eInt
  obtain ⟨y1, g1⟩ := fld hf 1 _ rfl (te := 3) (o := 1) rfl rfl eInt
  obtain ⟨y2, g2⟩ := fld hf 2 _ rfl (te := 9) (o := 2) rfl rfl eStr
  obtain ⟨y3, g3⟩ := fld hf 3 _ rfl (te := 9) (o := 3) rfl rfl eStr
  obtain ⟨y4, g4⟩ := fld hf 4 _ rfl (te := 9) (o := 4) rfl rfl eStr
  obtain ⟨y5, g5⟩ := fld hf 5 _ rfl (te := 9) (o := 5) rfl rfl eStr
  obtain ⟨y6, g6⟩ := fld hf 6 _ rfl (te := 9) (o := 6) rfl rfl eStr
  obtain ⟨y7, g7⟩ := fld hf 7 _ rfl (te := 9) (o := 7) rfl rfl eStr
  obtain ⟨y8, g8⟩ := fld hf 8 _ rfl (te := 48) (o := 8) rfl rfl eUse
  match cs, hl with
  | [c0, c1, c2, c3, c4, c5, c6, c7, c8, c9, c10, c11, c12, c13], _ =>
    obtain ⟨s0, e0, z0⟩ := eopen_int g0
    obtain ⟨s1, e1, z1⟩ := eopen_int g1
    obtain ⟨s2, e2, z2⟩ := eopen_str g2
    obtain ⟨s3, e3, z3⟩ := eopen_str g3
    obtain ⟨s4, e4, z4⟩ := eopen_str g4
    obtain ⟨s5, e5, z5⟩ := eopen_str g5
    obtain ⟨s6, e6, z6⟩ := eopen_str g6
    obtain ⟨s7, e7, z7⟩ := eopen_str g7
    have e0 : [c0] = [.int .i64 s0] := e0
    have e1 : [c1] = [.int .i64 s1] := e1
    have e2 : [c2] = [.string s2] := e2
    have e3 : [c3] = [.string s3] := e3
    have e4 : [c4] = [.string s4] := e4
    have e5 : [c5] = [.string s5] := e5
    have e6 : [c6] = [.string s6] := e6
    have e7 : [c7] = [.string s7] := e7
    cases e0; cases e1; cases e2; cases e3; cases e4; cases e5; cases e6; cases e7
    obtain ⟨_, m, hm⟩ := open_field Tryz.underlying48 g8
    obtain ⟨u0, k0⟩ := fld hm 0 _ rfl (te := 46) (o := 0) rfl rfl eIvl
    obtain ⟨u1, k1⟩ := fld hm 1 _ rfl (te := 46) (o := 2) rfl rfl eIvl
    obtain ⟨u2, k2⟩ := fld hm 2 _ rfl (te := 46) (o := 4) rfl rfl eIvl
    obtain ⟨a0, a1, rfl, rfl, w0, w1⟩ := eopen_ivl (c0 := c8) (c1 := c9) k0
    obtain ⟨a2, a3, rfl, rfl, w2, w3⟩ := eopen_ivl (c0 := c10) (c1 := c11) k1
    obtain ⟨a4, a5, rfl, rfl, w4, w5⟩ := eopen_ivl (c0 := c12) (c1 := c13) k2
    exact ⟨⟨s0, s1, s2, s3, s4, s5, s6, s7, a0, a1, a2, a3, a4, a5⟩, rfl, ⟨z0, z1, z2, z3, z4, z5, z6, z7, w0, w1, w2, w3, w4, w5⟩⟩
end

/-! ### As keys, and so as what can be compared -/
set_option maxRecDepth 100000 in
theorem ev_keyT : Tryz.prog.keyTypeAt 4 50 = true := by kernel_rfl
set_option maxRecDepth 100000 in
theorem ev_wide : (match Tryz.prog.underlying 50 with | some (.array _ _) | some (.struct _) => true | _ => false) = true := by kernel_rfl
set_option maxRecDepth 100000 in
theorem ev_law : WideMaps.KeyLaw Tryz.prog 50 := deep_law_laid laidOut (m := 4) (by omega) (by decide +kernel) ev_keyT ev_wide
theorem lits_str (d : Nat) {s : ByteArray} (hs : St s) : Tryz.prog.keyLits (d + 1) 9 [.string s] = some [.string s.data.toList] := by
  simp only [Program.keyLits, Tryz.underlying9]
  rw [if_pos (by unfold maxLen; exact hs)]
theorem lits_int (d : Nat) {z : Int} (hz : I64 z) : Tryz.prog.keyLits (d + 1) 3 [.int .i64 z] = some [.int .i64 z] := by
  simp only [Program.keyLits, Tryz.underlying3]
  rw [if_pos ⟨trivial, hz⟩]
theorem lits_ivl (d : Nat) {a b : Int} (ha : I64 a) (hb : I64 b) : Tryz.prog.keyLits (d + 2) 46 [.int .i64 a, .int .i64 b] = some [.int .i64 a, .int .i64 b] := by
  obtain ⟨n, hn⟩ : ∃ n, n = d + 1 := ⟨_, rfl⟩
  rw [show d + 2 = n + 1 by omega]
  simp only [Program.keyLits, Tryz.underlying46]
  rw [if_pos ⟨by kernel_rfl, by kernel_rfl⟩]
  simp [hn, eInt, lits_int d ha, lits_int d hb]
theorem lits_use (d : Nat) {a b c e f g : Int} (ha : I64 a) (hb : I64 b) (hc : I64 c) (he : I64 e) (hf : I64 f) (hg : I64 g) :
    Tryz.prog.keyLits (d + 3) 48 [.int .i64 a, .int .i64 b, .int .i64 c, .int .i64 e, .int .i64 f, .int .i64 g] = some [.int .i64 a, .int .i64 b, .int .i64 c, .int .i64 e, .int .i64 f, .int .i64 g] := by
  obtain ⟨n, hn⟩ : ∃ n, n = d + 2 := ⟨_, rfl⟩
  rw [show d + 3 = n + 1 by omega]
  simp only [Program.keyLits, Tryz.underlying48]
  rw [if_pos ⟨by kernel_rfl, by kernel_rfl⟩]
  simp [hn, eIvl, lits_ivl d ha hb, lits_ivl d hc he, lits_ivl d hf hg]
set_option maxRecDepth 100000 in
theorem ev_key {e : Ev} (h : Sz e) : ∃ l, keyOf Tryz.prog 50 (.agg (evC e).toArray) = some l := by
  have e1 : Tryz.prog.keyType 50 = true := by kernel_rfl
  obtain ⟨x0, x1, x2, x3, x4, x5, x6, x7, x8, x9, y0, y1, y2, y3⟩ := e
  obtain ⟨h0, h1, h2, h3, h4, h5, h6, h7, h8, h9, g0, g1, g2, g3⟩ := h
  have e2 : (Value.agg (evC ⟨x0, x1, x2, x3, x4, x5, x6, x7, x8, x9, y0, y1, y2, y3⟩).toArray).formed Tryz.prog 50 = true := by kernel_rfl
  obtain ⟨m, hm⟩ : ∃ m, Tryz.prog.types.size = m + 3 := ⟨Tryz.prog.types.size - 3, by decide +kernel⟩
  unfold keyOf
  rw [Tryz.underlying50]
  dsimp only
  rw [e1, e2]
  simp only [Bool.and_self, if_true, Program.keyLits, Tryz.underlying50]
  rw [if_pos ⟨by kernel_rfl, by kernel_rfl⟩, hm]
  simp [evC, Value.cells, eInt, eStr, eUse, lits_int (m + 2) h0, lits_int (m + 2) h1, lits_str (m + 2) h2, lits_str (m + 2) h3, lits_str (m + 2) h4, lits_str (m + 2) h5, lits_str (m + 2) h6, lits_str (m + 2) h7, lits_use m h8 h9 g0 g1 g2 g3]
noncomputable def evEq (a b : Ev) : Bool := by classical exact decide (a = b)
theorem evEq_iff {a b : Ev} : evEq a b = true ↔ a = b := by unfold evEq; simp
set_option maxRecDepth 100000 in
theorem run_ev_eq {a b : Ev} (ha : Sz a) (hb : Sz b) (w : World) : (Op.equal 50 (.agg (evC a).toArray) (.agg (evC b).toArray)).run Tryz.prog w = .ok (evEq a b) w := by
  obtain ⟨la, ka⟩ := ev_key ha
  obtain ⟨lb, kb⟩ := ev_key hb
  obtain ⟨r, hr, hiff⟩ := run_equal_deep w (by omega) ev_keyT ev_wide ka kb
  rw [hr]
  congr 1
  have h2 : la = lb ↔ a = b := ⟨fun e => by
    subst e
    have := ev_law.inj ka kb
    simp only [Value.agg.injEq, Array.mk.injEq] at this
    exact evC_inj this, fun e => by subst e; rw [ka] at kb; exact Option.some.inj kb⟩
  rw [h2] at hiff
  cases r with
  | true => exact (evEq_iff.2 (hiff.1 rfl)).symm
  | false =>
    cases hq : evEq a b with
    | false => rfl
    | true => exact absurd (hiff.2 (evEq_iff.1 hq)) (by simp)
end Go.Proofs.YtfkejnnbfneieaaGreatDoor

/- An event as an argument. -/
namespace Go.Proofs.YtfkejnnbfneieaaGreatDoor
open Go.ChangeShapes Go.WideShapes Go.ChangeAt Go.RowKit Go.Deep
open Evt

set_option maxRecDepth 100000 in
theorem open_ev_arg {H : Type} {enc : TypeId × Value → H} {W : World} {base : Nat} {spare : Nat → Bool} {held : Bool} {v : Value} {d : DataW H} {p : List MemPlace} {r : Reach} {b0 : Nat} (hv : Value.okWide Tryz.prog W r b0 50 v) (h : DataW.Trod enc Tryz.prog W base spare held 50 v d p) :
    ∃ x : Ev, v = .agg (evC x).toArray ∧ Sz x := by
  obtain ⟨ca, rfl, hsz⟩ := okWide_struct Tryz.underlying50 hv
  obtain ⟨fuel, hf⟩ := h
  have hc : (Value.agg ca).cells.toList = ca.toList := by simp [Value.cells]
  rw [hc] at hf
  obtain ⟨x, e, h1⟩ := eopen_ev hf
  refine ⟨x, ?_, h1⟩
  rw [← Array.toArray_toList (xs := ca), e]
end Go.Proofs.YtfkejnnbfneieaaGreatDoor
