/- Catalogs, states, substitutions and concessions: as values, in memory, and as arguments. -/
import Derived.Test.YtapjnbofhdljfaaMem
namespace Go.Proofs.Ytapjnbofhdljfaa
open Go.ChangeShapes Go.WideShapes Go.ChangeAt Go.RowKit Go.Deep

namespace Cat
structure Slt where
  name : ByteArray
  kinds : List ByteArray
  normal : Int
structure Knd where
  name : ByteArray
  vehicle : Bool
  slots : List Slt
structure Prt where
  name : ByteArray
  kind : ByteArray
  into : ByteArray
  slot : ByteArray
  made : Int
  since : Int
  scrapped : Bool
  props : List (ByteArray × ByteArray)
  l0 : Int
  l1 : Int
  l2 : Int
  l3 : Int
  l4 : Int
  l5 : Int
structure Sb where
  kind : ByteArray
  slot : ByteArray
  other : ByteArray
  twin : ByteArray
  to : Int
structure Cn where
  part : ByteArray
  rule : ByteArray
  to : Int
end Cat
open Cat

def ElSlt (W : World) (cs : List Value) (s : Slt) : Prop := ∃ ko kc, cs = [.string s.name, .slice ko s.kinds.length kc, .int .i64 s.normal] ∧ IsStrs W ko s.kinds ∧ s.kinds.length ≤ kc ∧ kc ≤ 9223372036854775807
def ElKnd (W : World) (cs : List Value) (k : Knd) : Prop := ∃ so sc, cs = [.string k.name, .bool k.vehicle, .slice so k.slots.length sc] ∧ IsL 3 ElSlt W so k.slots ∧ k.slots.length ≤ 9223372036854775807
def ElPrp (_ : World) (cs : List Value) (p : ByteArray × ByteArray) : Prop := cs = [.string p.1, .string p.2]
/-- A part's cells, with this slice of properties. -/
def ptC (p : Prt) (pv : Value) : List Value := [.string p.name, .string p.kind, .string p.into, .string p.slot, .int .i64 p.made, .int .i64 p.since, .bool p.scrapped, pv, .int .i64 p.l0, .int .i64 p.l1, .int .i64 p.l2, .int .i64 p.l3, .int .i64 p.l4, .int .i64 p.l5]
def ElPrt (W : World) (cs : List Value) (p : Prt) : Prop := ∃ po pc, cs = ptC p (.slice po p.props.length pc) ∧ IsL 2 ElPrp W po p.props ∧ p.props.length ≤ 9223372036854775807
def ElSub (_ : World) (cs : List Value) (s : Sb) : Prop := cs = [.string s.kind, .string s.slot, .string s.other, .string s.twin, .int .i64 s.to]
def ElCon (_ : World) (cs : List Value) (c : Cn) : Prop := cs = [.string c.part, .string c.rule, .int .i64 c.to]
theorem stSlt : ElStable ElSlt := fun _ _ _ _ ⟨ko, kc, h1, h2, h3⟩ hb => ⟨ko, kc, h1, h2.below hb, h3⟩
theorem stKnd : ElStable ElKnd := fun _ _ _ _ ⟨so, sc, h1, h2, h3⟩ hb => ⟨so, sc, h1, h2.below stSlt hb, h3⟩
theorem stPrp : ElStable ElPrp := fun _ _ _ _ h _ => h
theorem stPrt : ElStable ElPrt := fun _ _ _ _ ⟨po, pc, h1, h2, h3⟩ hb => ⟨po, pc, h1, h2.below stPrp hb, h3⟩
theorem stSub : ElStable ElSub := fun _ _ _ _ h _ => h
theorem stCon : ElStable ElCon := fun _ _ _ _ h _ => h

theorem cStr : Try.prog.cellsOf 9 = 1 := by kernel_rfl
theorem cInt : Try.prog.cellsOf 3 = 1 := by kernel_rfl
theorem cBool : Try.prog.cellsOf 4 = 1 := by kernel_rfl
theorem cStrs : Try.prog.cellsOf 69 = 1 := by kernel_rfl
theorem cSlots : Try.prog.cellsOf 76 = 1 := by kernel_rfl
theorem cProps : Try.prog.cellsOf 39 = 1 := by kernel_rfl
theorem cKinds : Try.prog.cellsOf 22 = 1 := by kernel_rfl
theorem cParts : Try.prog.cellsOf 26 = 1 := by kernel_rfl
theorem cIvl : Try.prog.cellsOf 41 = 2 := by kernel_rfl
theorem cLife : Try.prog.cellsOf 43 = 6 := by kernel_rfl

section
variable {H : Type} {enc : TypeId × Value → H} {W : World} {base : Nat} {spare : Nat → Bool} {held : Bool} {v : Value} {d : DataW H} {p : List MemPlace}
theorem open_str {fuel : Nat} {cs : List Value} {x : DataW H × List MemPlace} (h : DataW.trod enc Try.prog W base spare held fuel 9 cs = some x) : ∃ s : ByteArray, cs = [.string s] ∧ s.size ≤ 9223372036854775807 := by
  obtain ⟨s, h1, _, h2⟩ := DataW.trod_string Try.underlying9 h
  exact ⟨s, h1, h2⟩
theorem open_int1 {fuel : Nat} {cs : List Value} {x : DataW H × List MemPlace} (h : DataW.trod enc Try.prog W base spare held fuel 3 cs = some x) : ∃ z : Int, cs = [.int .i64 z] := by
  obtain ⟨z, h1, _⟩ := DataW.trod_int Try.underlying3 h
  exact ⟨z, h1⟩
theorem open_strsL {fuel : Nat} {cs : List Value} {x : DataW H × List MemPlace} (h : DataW.trod enc Try.prog W base spare held fuel 69 cs = some x) :
    ∃ ao l cap, cs = [.slice ao (List.length l) cap] ∧ IsStrs W ao l ∧ l.length ≤ cap ∧ cap ≤ 9223372036854775807 := by
  obtain ⟨ao, l, cap, h1, h2, h3, h4, _⟩ := open_list (size := 1) (El := fun _ cs (s : ByteArray) => cs = [.string s]) Try.underlying69 (show Try.prog.cellsOf 9 = 1 by kernel_rfl) (by decide) (fun fuel cs x h => by
    obtain ⟨s, h1, _⟩ := open_str h
    exact ⟨s, h1⟩) h
  refine ⟨ao, l, cap, h1, ?_, h3, h4⟩
  rcases h2 with h2 | ⟨bk, off, e1, e2, e3⟩
  · exact Or.inl h2
  · refine Or.inr ⟨bk, off, e1, e2, fun k hk => ?_⟩
    obtain ⟨cs, f1, f2⟩ := e3 k hk
    have := f1 0 (.string l[k]) (by rw [f2]; rfl)
    simpa using this
set_option maxRecDepth 100000 in
theorem open_slt {fuel : Nat} {cs : List Value} {x : DataW H × List MemPlace} (h : DataW.trod enc Try.prog W base spare held fuel 74 cs = some x) : ∃ s, ElSlt W cs s := by
  obtain ⟨hl, n, hf⟩ := open_field Try.underlying74 h
  rw [show Try.prog.cellsOf 74 = 3 by kernel_rfl] at hl
  obtain ⟨y0, g0⟩ := fld hf 0 _ rfl (te := 9) (o := 0) rfl rfl cStr
  obtain ⟨y1, g1⟩ := fld hf 1 _ rfl (te := 69) (o := 1) rfl rfl cStrs
  obtain ⟨y2, g2⟩ := fld hf 2 _ rfl (te := 3) (o := 2) rfl rfl cInt
  match cs, hl with
  | [c0, c1, c2], _ =>
    obtain ⟨s, e0, -⟩ := open_str g0
    obtain ⟨ko, ks, kc, e1, hk, hk1, hk2⟩ := open_strsL g1
    obtain ⟨z, e2⟩ := open_int1 g2
    have e0 : [c0] = [.string s] := e0
    have e1 : [c1] = [.slice ko ks.length kc] := e1
    have e2 : [c2] = [.int .i64 z] := e2
    cases e0; cases e1; cases e2
    exact ⟨⟨s, ks, z⟩, ko, kc, rfl, hk, hk1, hk2⟩
theorem open_bool1 {fuel : Nat} {cs : List Value} {x : DataW H × List MemPlace} (h : DataW.trod enc Try.prog W base spare held fuel 4 cs = some x) : ∃ b : Bool, cs = [.bool b] := by
  obtain ⟨b, h1, _⟩ := DataW.trod_bool Try.underlying4 h
  exact ⟨b, h1⟩
set_option maxRecDepth 100000 in
theorem open_knd {fuel : Nat} {cs : List Value} {x : DataW H × List MemPlace} (h : DataW.trod enc Try.prog W base spare held fuel 78 cs = some x) : ∃ k, ElKnd W cs k := by
  obtain ⟨hl, n, hf⟩ := open_field Try.underlying78 h
  rw [show Try.prog.cellsOf 78 = 3 by kernel_rfl] at hl
  obtain ⟨y0, g0⟩ := fld hf 0 _ rfl (te := 9) (o := 0) rfl rfl cStr
  obtain ⟨y1, g1⟩ := fld hf 1 _ rfl (te := 4) (o := 1) rfl rfl cBool
  obtain ⟨y2, g2⟩ := fld hf 2 _ rfl (te := 76) (o := 2) rfl rfl cSlots
  match cs, hl with
  | [c0, c1, c2], _ =>
    obtain ⟨s, e0, -⟩ := open_str g0
    obtain ⟨b, e1⟩ := open_bool1 g1
    obtain ⟨so, ss, sc, e2, hk, hk1, hk2, _⟩ := open_list (size := 3) (El := ElSlt) Try.underlying76 (show Try.prog.cellsOf 74 = 3 by kernel_rfl) (by decide) (fun fuel cs x h => open_slt h) g2
    have e0 : [c0] = [.string s] := e0
    have e1 : [c1] = [.bool b] := e1
    have e2 : [c2] = [.slice so ss.length sc] := e2
    cases e0; cases e1; cases e2
    exact ⟨⟨s, b, ss⟩, so, sc, rfl, hk, Nat.le_trans hk1 hk2⟩
set_option maxRecDepth 100000 in
theorem open_prp {fuel : Nat} {cs : List Value} {x : DataW H × List MemPlace} (h : DataW.trod enc Try.prog W base spare held fuel 80 cs = some x) : ∃ k, ElPrp W cs k := by
  obtain ⟨hl, n, hf⟩ := open_field Try.underlying80 h
  rw [show Try.prog.cellsOf 80 = 2 by kernel_rfl] at hl
  obtain ⟨y0, g0⟩ := fld hf 0 _ rfl (te := 9) (o := 0) rfl rfl cStr
  obtain ⟨y1, g1⟩ := fld hf 1 _ rfl (te := 9) (o := 1) rfl rfl cStr
  match cs, hl with
  | [c0, c1], _ =>
    obtain ⟨s, e0, -⟩ := open_str g0
    obtain ⟨u, e1, -⟩ := open_str g1
    have e0 : [c0] = [.string s] := e0
    have e1 : [c1] = [.string u] := e1
    cases e0; cases e1
    exact ⟨(s, u), rfl⟩
set_option maxRecDepth 100000 in
theorem open_ivl {fuel : Nat} {c0 c1 : Value} {x : DataW H × List MemPlace} (h : DataW.trod enc Try.prog W base spare held fuel 41 [c0, c1] = some x) : ∃ a b : Int, c0 = .int .i64 a ∧ c1 = .int .i64 b := by
  obtain ⟨_, n, hf⟩ := open_field Try.underlying41 h
  obtain ⟨y0, g0⟩ := fld hf 0 _ rfl (te := 3) (o := 0) rfl rfl cInt
  obtain ⟨y1, g1⟩ := fld hf 1 _ rfl (te := 3) (o := 1) rfl rfl cInt
  obtain ⟨a, e0⟩ := open_int1 g0
  obtain ⟨b, e1⟩ := open_int1 g1
  have e0 : [c0] = [.int .i64 a] := e0
  have e1 : [c1] = [.int .i64 b] := e1
  cases e0; cases e1
  exact ⟨a, b, rfl, rfl⟩
set_option maxRecDepth 100000 in
theorem open_prt {fuel : Nat} {cs : List Value} {x : DataW H × List MemPlace} (h : DataW.trod enc Try.prog W base spare held fuel 45 cs = some x) : ∃ k, ElPrt W cs k := by
  obtain ⟨hl, n, hf⟩ := open_field Try.underlying45 h
  rw [show Try.prog.cellsOf 45 = 14 by kernel_rfl] at hl
  obtain ⟨y0, g0⟩ := fld hf 0 _ rfl (te := 9) (o := 0) rfl rfl cStr
  obtain ⟨y1, g1⟩ := fld hf 1 _ rfl (te := 9) (o := 1) rfl rfl cStr
  obtain ⟨y2, g2⟩ := fld hf 2 _ rfl (te := 9) (o := 2) rfl rfl cStr
  obtain ⟨y3, g3⟩ := fld hf 3 _ rfl (te := 9) (o := 3) rfl rfl cStr
  obtain ⟨y4, g4⟩ := fld hf 4 _ rfl (te := 3) (o := 4) rfl rfl cInt
  obtain ⟨y5, g5⟩ := fld hf 5 _ rfl (te := 3) (o := 5) rfl rfl cInt
  obtain ⟨y6, g6⟩ := fld hf 6 _ rfl (te := 4) (o := 6) rfl rfl cBool
  obtain ⟨y7, g7⟩ := fld hf 7 _ rfl (te := 39) (o := 7) rfl rfl cProps
  obtain ⟨y8, g8⟩ := fld hf 8 _ rfl (te := 43) (o := 8) rfl rfl cLife
  match cs, hl with
  | [c0, c1, c2, c3, c4, c5, c6, c7, c8, c9, c10, c11, c12, c13], _ =>
    obtain ⟨s0, e0, -⟩ := open_str g0
    obtain ⟨s1, e1, -⟩ := open_str g1
    obtain ⟨s2, e2, -⟩ := open_str g2
    obtain ⟨s3, e3, -⟩ := open_str g3
    obtain ⟨z4, e4⟩ := open_int1 g4
    obtain ⟨z5, e5⟩ := open_int1 g5
    obtain ⟨b6, e6⟩ := open_bool1 g6
    obtain ⟨po, ps, pc, e7, hk, hk1, hk2, _⟩ := open_list (size := 2) (El := ElPrp) Try.underlying39 (show Try.prog.cellsOf 80 = 2 by kernel_rfl) (by decide) (fun fuel cs x h => open_prp h) g7
    have e0 : [c0] = [.string s0] := e0
    have e1 : [c1] = [.string s1] := e1
    have e2 : [c2] = [.string s2] := e2
    have e3 : [c3] = [.string s3] := e3
    have e4 : [c4] = [.int .i64 z4] := e4
    have e5 : [c5] = [.int .i64 z5] := e5
    have e6 : [c6] = [.bool b6] := e6
    have e7 : [c7] = [.slice po ps.length pc] := e7
    cases e0; cases e1; cases e2; cases e3; cases e4; cases e5; cases e6; cases e7
    obtain ⟨_, m, hm⟩ := open_field Try.underlying43 g8
    obtain ⟨u0, k0⟩ := fld hm 0 _ rfl (te := 41) (o := 0) rfl rfl cIvl
    obtain ⟨u1, k1⟩ := fld hm 1 _ rfl (te := 41) (o := 2) rfl rfl cIvl
    obtain ⟨u2, k2⟩ := fld hm 2 _ rfl (te := 41) (o := 4) rfl rfl cIvl
    obtain ⟨a0, a1, rfl, rfl⟩ := open_ivl (c0 := c8) (c1 := c9) k0
    obtain ⟨a2, a3, rfl, rfl⟩ := open_ivl (c0 := c10) (c1 := c11) k1
    obtain ⟨a4, a5, rfl, rfl⟩ := open_ivl (c0 := c12) (c1 := c13) k2
    exact ⟨⟨s0, s1, s2, s3, z4, z5, b6, ps, a0, a1, a2, a3, a4, a5⟩, po, pc, rfl, hk, Nat.le_trans hk1 hk2⟩
set_option maxRecDepth 100000 in
theorem open_sub {fuel : Nat} {cs : List Value} {x : DataW H × List MemPlace} (h : DataW.trod enc Try.prog W base spare held fuel 51 cs = some x) : ∃ k, ElSub W cs k := by
  obtain ⟨hl, n, hf⟩ := open_field Try.underlying51 h
  rw [show Try.prog.cellsOf 51 = 5 by kernel_rfl] at hl
  obtain ⟨y0, g0⟩ := fld hf 0 _ rfl (te := 9) (o := 0) rfl rfl cStr
  obtain ⟨y1, g1⟩ := fld hf 1 _ rfl (te := 9) (o := 1) rfl rfl cStr
  obtain ⟨y2, g2⟩ := fld hf 2 _ rfl (te := 9) (o := 2) rfl rfl cStr
  obtain ⟨y3, g3⟩ := fld hf 3 _ rfl (te := 9) (o := 3) rfl rfl cStr
  obtain ⟨y4, g4⟩ := fld hf 4 _ rfl (te := 3) (o := 4) rfl rfl cInt
  match cs, hl with
  | [c0, c1, c2, c3, c4], _ =>
    obtain ⟨s0, e0, -⟩ := open_str g0
    obtain ⟨s1, e1, -⟩ := open_str g1
    obtain ⟨s2, e2, -⟩ := open_str g2
    obtain ⟨s3, e3, -⟩ := open_str g3
    obtain ⟨z4, e4⟩ := open_int1 g4
    have e0 : [c0] = [.string s0] := e0
    have e1 : [c1] = [.string s1] := e1
    have e2 : [c2] = [.string s2] := e2
    have e3 : [c3] = [.string s3] := e3
    have e4 : [c4] = [.int .i64 z4] := e4
    cases e0; cases e1; cases e2; cases e3; cases e4
    exact ⟨⟨s0, s1, s2, s3, z4⟩, rfl⟩
set_option maxRecDepth 100000 in
theorem open_con {fuel : Nat} {cs : List Value} {x : DataW H × List MemPlace} (h : DataW.trod enc Try.prog W base spare held fuel 56 cs = some x) : ∃ k, ElCon W cs k := by
  obtain ⟨hl, n, hf⟩ := open_field Try.underlying56 h
  rw [show Try.prog.cellsOf 56 = 3 by kernel_rfl] at hl
  obtain ⟨y0, g0⟩ := fld hf 0 _ rfl (te := 9) (o := 0) rfl rfl cStr
  obtain ⟨y1, g1⟩ := fld hf 1 _ rfl (te := 9) (o := 1) rfl rfl cStr
  obtain ⟨y2, g2⟩ := fld hf 2 _ rfl (te := 3) (o := 2) rfl rfl cInt
  match cs, hl with
  | [c0, c1, c2], _ =>
    obtain ⟨s0, e0, -⟩ := open_str g0
    obtain ⟨s1, e1, -⟩ := open_str g1
    obtain ⟨z2, e2⟩ := open_int1 g2
    have e0 : [c0] = [.string s0] := e0
    have e1 : [c1] = [.string s1] := e1
    have e2 : [c2] = [.int .i64 z2] := e2
    cases e0; cases e1; cases e2
    exact ⟨⟨s0, s1, z2⟩, rfl⟩
/-! ### As arguments -/
theorem open_subs_arg {ao : Option Addr} {len cap : Nat} (h : DataW.Trod enc Try.prog W base spare held 25 (.slice ao len cap) d p) : ∃ l : List Sb, len = l.length ∧ IsL 5 ElSub W ao l ∧ len ≤ cap ∧ cap ≤ 9223372036854775807 := by
  obtain ⟨fuel, hf⟩ := h
  obtain ⟨ao', l, cap', e, h1, h2, h3, _⟩ := open_list (size := 5) (El := ElSub) Try.underlying25 (show Try.prog.cellsOf 51 = 5 by kernel_rfl) (by decide) (fun fuel cs x h => open_sub h) hf
  have e : [Value.slice ao len cap] = [.slice ao' l.length cap'] := e
  cases e
  exact ⟨l, rfl, h1, h2, h3⟩
theorem open_cons_arg {ao : Option Addr} {len cap : Nat} (h : DataW.Trod enc Try.prog W base spare held 29 (.slice ao len cap) d p) : ∃ l : List Cn, len = l.length ∧ IsL 3 ElCon W ao l ∧ len ≤ cap ∧ cap ≤ 9223372036854775807 := by
  obtain ⟨fuel, hf⟩ := h
  obtain ⟨ao', l, cap', e, h1, h2, h3, _⟩ := open_list (size := 3) (El := ElCon) Try.underlying29 (show Try.prog.cellsOf 56 = 3 by kernel_rfl) (by decide) (fun fuel cs x h => open_con h) hf
  have e : [Value.slice ao len cap] = [.slice ao' l.length cap'] := e
  cases e
  exact ⟨l, rfl, h1, h2, h3⟩
set_option maxRecDepth 100000 in
theorem open_cat_arg {r : Reach} {b0 : Nat} (hv : Value.okWide Try.prog W r b0 24 v) (h : DataW.Trod enc Try.prog W base spare held 24 v d p) : ∃ (ao : Option Addr) (l : List Knd) (cap : Nat), v = .agg #[.slice ao l.length cap] ∧ IsL 3 ElKnd W ao l ∧ l.length ≤ cap ∧ cap ≤ 9223372036854775807 := by
  obtain ⟨ca, rfl, hsz⟩ := okWide_struct Try.underlying24 hv
  obtain ⟨fuel, hf⟩ := h
  obtain ⟨hl, n, hf⟩ := open_field Try.underlying24 hf
  rw [show Try.prog.cellsOf 24 = 1 by kernel_rfl] at hl
  obtain ⟨y0, g0⟩ := fld hf 0 _ rfl (te := 22) (o := 0) rfl rfl cKinds
  obtain ⟨ao, l, cap, e, h1, h2, h3, _⟩ := open_list (size := 3) (El := ElKnd) Try.underlying22 (show Try.prog.cellsOf 78 = 3 by kernel_rfl) (by decide) (fun fuel cs x h => open_knd h) g0
  have hc : (Value.agg ca).cells.toList = ca.toList := by simp [Value.cells]
  obtain ⟨c, hc2⟩ : ∃ c, ca.toList = [c] := by
    have : ca.toList.length = 1 := by rw [← hc]; exact hl
    match ca.toList, this with
    | [c], _ => exact ⟨c, rfl⟩
  have e : ((Value.agg ca).cells.toList.drop 0).take 1 = [.slice ao l.length cap] := e
  rw [hc, hc2] at e
  have e : [c] = [.slice ao l.length cap] := e
  cases e
  refine ⟨ao, l, cap, ?_, h1, h2, h3⟩
  rw [← Array.toArray_toList (xs := ca), hc2]
set_option maxRecDepth 100000 in
theorem open_state_arg {r : Reach} {b0 : Nat} (hv : Value.okWide Try.prog W r b0 28 v) (h : DataW.Trod enc Try.prog W base spare held 28 v d p) : ∃ (ao : Option Addr) (l : List Prt) (cap : Nat), v = .agg #[.slice ao l.length cap] ∧ IsL 14 ElPrt W ao l ∧ l.length ≤ cap ∧ cap ≤ 9223372036854775807 := by
  obtain ⟨ca, rfl, hsz⟩ := okWide_struct Try.underlying28 hv
  obtain ⟨fuel, hf⟩ := h
  obtain ⟨hl, n, hf⟩ := open_field Try.underlying28 hf
  rw [show Try.prog.cellsOf 28 = 1 by kernel_rfl] at hl
  obtain ⟨y0, g0⟩ := fld hf 0 _ rfl (te := 26) (o := 0) rfl rfl cParts
  obtain ⟨ao, l, cap, e, h1, h2, h3, _⟩ := open_list (size := 14) (El := ElPrt) Try.underlying26 (show Try.prog.cellsOf 45 = 14 by kernel_rfl) (by decide) (fun fuel cs x h => open_prt h) g0
  have hc : (Value.agg ca).cells.toList = ca.toList := by simp [Value.cells]
  obtain ⟨c, hc2⟩ : ∃ c, ca.toList = [c] := by
    have : ca.toList.length = 1 := by rw [← hc]; exact hl
    match ca.toList, this with
    | [c], _ => exact ⟨c, rfl⟩
  have e : ((Value.agg ca).cells.toList.drop 0).take 1 = [.slice ao l.length cap] := e
  rw [hc, hc2] at e
  have e : [c] = [.slice ao l.length cap] := e
  cases e
  refine ⟨ao, l, cap, ?_, h1, h2, h3⟩
  rw [← Array.toArray_toList (xs := ca), hc2]
end

end Go.Proofs.Ytapjnbofhdljfaa
