/- Catalogs and states as arguments, with the sizes of their strings. -/
import Derived.Test.YtapjnbofhdljfaaFltValid
namespace Go.Proofs.Ytapjnbofhdljfaa
open Go.ChangeShapes Go.WideShapes Go.ChangeAt Go.RowKit Go.Deep
open Cat

theorem IsL.both {α : Type} {size : Nat} {El : World → List Value → α → Prop} {S : α → Prop} {W : World} {ao : Option Addr} {l : List α} (h : IsL size (fun W cs a => El W cs a ∧ S a) W ao l) : IsL size El W ao l ∧ ∀ a ∈ l, S a := by
  rcases h with h | ⟨bk, off, h1, h2, h3⟩
  · exact ⟨Or.inl h, by rw [h]; simp⟩
  · refine ⟨Or.inr ⟨bk, off, h1, h2, fun k hk => ?_⟩, fun a ha => ?_⟩
    · obtain ⟨cs, e1, e2, _⟩ := h3 k hk
      exact ⟨cs, e1, e2⟩
    · obtain ⟨k, hk, rfl⟩ := List.getElem_of_mem ha
      obtain ⟨cs, _, _, e3⟩ := h3 k hk
      exact e3
def SzPrp (q : ByteArray × ByteArray) : Prop := q.1.size ≤ 9223372036854775807 ∧ q.2.size ≤ 9223372036854775807
section
variable {H : Type} {enc : TypeId × Value → H} {W : World} {base : Nat} {spare : Nat → Bool} {held : Bool} {v : Value} {d : DataW H} {p : List MemPlace}
theorem open_strsL2 {fuel : Nat} {cs : List Value} {x : DataW H × List MemPlace} (h : DataW.trod enc Try.prog W base spare held fuel 69 cs = some x) :
    ∃ ao l cap, cs = [.slice ao (List.length l) cap] ∧ IsStrs W ao l ∧ l.length ≤ cap ∧ cap ≤ 9223372036854775807 ∧ ∀ s ∈ l, s.size ≤ 9223372036854775807 := by
  obtain ⟨ao, l, cap, h1, h2, h3, h4, _⟩ := open_list (size := 1) (El := fun _ cs (s : ByteArray) => cs = [.string s] ∧ s.size ≤ 9223372036854775807) Try.underlying69 (show Try.prog.cellsOf 9 = 1 by kernel_rfl) (by decide) (fun fuel cs x h => by
    obtain ⟨s, h1, h2⟩ := open_str h
    exact ⟨s, h1, h2⟩) h
  obtain ⟨h2, h5⟩ := IsL.both (El := fun _ cs (s : ByteArray) => cs = [.string s]) h2
  refine ⟨ao, l, cap, h1, ?_, h3, h4, h5⟩
  rcases h2 with h2 | ⟨bk, off, e1, e2, e3⟩
  · exact Or.inl h2
  · refine Or.inr ⟨bk, off, e1, e2, fun k hk => ?_⟩
    obtain ⟨cs, f1, f2⟩ := e3 k hk
    have := f1 0 (.string l[k]) (by rw [f2]; rfl)
    simpa using this
set_option maxRecDepth 100000 in
theorem open_slt2 {fuel : Nat} {cs : List Value} {x : DataW H × List MemPlace} (h : DataW.trod enc Try.prog W base spare held fuel 74 cs = some x) : ∃ s, ElSlt W cs s ∧ SzSlt s := by
  obtain ⟨hl, n, hf⟩ := open_field Try.underlying74 h
  rw [show Try.prog.cellsOf 74 = 3 by kernel_rfl] at hl
  obtain ⟨y0, g0⟩ := fld hf 0 _ rfl (te := 9) (o := 0) rfl rfl cStr
  obtain ⟨y1, g1⟩ := fld hf 1 _ rfl (te := 69) (o := 1) rfl rfl cStrs
  obtain ⟨y2, g2⟩ := fld hf 2 _ rfl (te := 3) (o := 2) rfl rfl cInt
  match cs, hl with
  | [c0, c1, c2], _ =>
    obtain ⟨s, e0, z0⟩ := open_str g0
    obtain ⟨ko, ks, kc, e1, hk, hk1, hk2, z1⟩ := open_strsL2 g1
    obtain ⟨z, e2⟩ := open_int1 g2
    have e0 : [c0] = [.string s] := e0
    have e1 : [c1] = [.slice ko ks.length kc] := e1
    have e2 : [c2] = [.int .i64 z] := e2
    cases e0; cases e1; cases e2
    exact ⟨⟨s, ks, z⟩, ⟨ko, kc, rfl, hk, hk1, hk2⟩, z0, z1⟩
set_option maxRecDepth 100000 in
theorem open_knd2 {fuel : Nat} {cs : List Value} {x : DataW H × List MemPlace} (h : DataW.trod enc Try.prog W base spare held fuel 78 cs = some x) : ∃ k, ElKnd W cs k ∧ SzKnd k := by
  obtain ⟨hl, n, hf⟩ := open_field Try.underlying78 h
  rw [show Try.prog.cellsOf 78 = 3 by kernel_rfl] at hl
  obtain ⟨y0, g0⟩ := fld hf 0 _ rfl (te := 9) (o := 0) rfl rfl cStr
  obtain ⟨y1, g1⟩ := fld hf 1 _ rfl (te := 4) (o := 1) rfl rfl cBool
  obtain ⟨y2, g2⟩ := fld hf 2 _ rfl (te := 76) (o := 2) rfl rfl cSlots
  match cs, hl with
  | [c0, c1, c2], _ =>
    obtain ⟨s, e0, z0⟩ := open_str g0
    obtain ⟨b, e1⟩ := open_bool1 g1
    obtain ⟨so, ss, sc, e2, hk, hk1, hk2, _⟩ := open_list (size := 3) (El := fun W cs s => ElSlt W cs s ∧ SzSlt s) Try.underlying76 (show Try.prog.cellsOf 74 = 3 by kernel_rfl) (by decide) (fun fuel cs x h => open_slt2 h) g2
    obtain ⟨hk, z1⟩ := hk.both
    have e0 : [c0] = [.string s] := e0
    have e1 : [c1] = [.bool b] := e1
    have e2 : [c2] = [.slice so ss.length sc] := e2
    cases e0; cases e1; cases e2
    exact ⟨⟨s, b, ss⟩, ⟨so, sc, rfl, hk, Nat.le_trans hk1 hk2⟩, z0, z1⟩
set_option maxRecDepth 100000 in
theorem open_prp2 {fuel : Nat} {cs : List Value} {x : DataW H × List MemPlace} (h : DataW.trod enc Try.prog W base spare held fuel 80 cs = some x) : ∃ k, ElPrp W cs k ∧ SzPrp k := by
  obtain ⟨hl, n, hf⟩ := open_field Try.underlying80 h
  rw [show Try.prog.cellsOf 80 = 2 by kernel_rfl] at hl
  obtain ⟨y0, g0⟩ := fld hf 0 _ rfl (te := 9) (o := 0) rfl rfl cStr
  obtain ⟨y1, g1⟩ := fld hf 1 _ rfl (te := 9) (o := 1) rfl rfl cStr
  match cs, hl with
  | [c0, c1], _ =>
    obtain ⟨s, e0, z0⟩ := open_str g0
    obtain ⟨u, e1, z1⟩ := open_str g1
    have e0 : [c0] = [.string s] := e0
    have e1 : [c1] = [.string u] := e1
    cases e0; cases e1
    exact ⟨(s, u), rfl, z0, z1⟩
set_option maxRecDepth 100000 in
theorem open_prt2 {fuel : Nat} {cs : List Value} {x : DataW H × List MemPlace} (h : DataW.trod enc Try.prog W base spare held fuel 45 cs = some x) : ∃ k, ElPrt W cs k ∧ SzPrt k := by
  obtain ⟨hl, n, hf⟩ := open_field Try.underlying45 h
  rw [show Try.prog.cellsOf 45 = 14 by kernel_rfl] at hl
  obtain ⟨y0, g0⟩ := fld hf 0 _ rfl (te := 9) (o := 0) rfl rfl cStr
  obtain ⟨y1, g1⟩ := fld hf 1 _ rfl (te := 9) (o := 1) rfl rfl cStr
  obtain ⟨y2, g2⟩ := fld hf 2 _ rfl (te := 9) (o := 2) rfl rfl cStr
  obtain ⟨y3, g3⟩ := fld hf 3 _ rfl (te := 9) (o := 3) rfl rfl cStr
  obtain ⟨y4, g4⟩ := fld hf 4 _ rfl (te := 3) (o := 4) rfl rfl cInt
  obtain ⟨y5, g5⟩ := fld hf 5 _ rfl (te := 3) (o := 5) rfl rfl cInt
  obtain ⟨y6, g6⟩ := fld hf 6 _ rfl (te := 4) (o := 6) rfl rfl cBool
  obtain ⟨y7, g7⟩ := fld hf 7 _ rfl (te := 39) (o := 7) rfl rfl cProps
  obtain ⟨y8, g8⟩ := fld hf 8 _ rfl (te := 43) (o := 8) rfl rfl cLife
  match cs, hl with
  | [c0, c1, c2, c3, c4, c5, c6, c7, c8, c9, c10, c11, c12, c13], _ =>
    obtain ⟨s0, e0, y0'⟩ := open_str g0
    obtain ⟨s1, e1, y1'⟩ := open_str g1
    obtain ⟨s2, e2, y2'⟩ := open_str g2
    obtain ⟨s3, e3, y3'⟩ := open_str g3
    obtain ⟨z4, e4⟩ := open_int1 g4
    obtain ⟨z5, e5⟩ := open_int1 g5
    obtain ⟨b6, e6⟩ := open_bool1 g6
    obtain ⟨po, ps, pc, e7, hk, hk1, hk2, _⟩ := open_list (size := 2) (El := fun W cs q => ElPrp W cs q ∧ SzPrp q) Try.underlying39 (show Try.prog.cellsOf 80 = 2 by kernel_rfl) (by decide) (fun fuel cs x h => open_prp2 h) g7
    obtain ⟨hk, y4'⟩ := hk.both
    have e0 : [c0] = [.string s0] := e0
    have e1 : [c1] = [.string s1] := e1
    have e2 : [c2] = [.string s2] := e2
    have e3 : [c3] = [.string s3] := e3
    have e4 : [c4] = [.int .i64 z4] := e4
    have e5 : [c5] = [.int .i64 z5] := e5
    have e6 : [c6] = [.bool b6] := e6
    have e7 : [c7] = [.slice po ps.length pc] := e7
    cases e0; cases e1; cases e2; cases e3; cases e4; cases e5; cases e6; cases e7
    obtain ⟨_, m, hm⟩ := open_field Try.underlying43 g8
    obtain ⟨u0, k0⟩ := fld hm 0 _ rfl (te := 41) (o := 0) rfl rfl cIvl
    obtain ⟨u1, k1⟩ := fld hm 1 _ rfl (te := 41) (o := 2) rfl rfl cIvl
    obtain ⟨u2, k2⟩ := fld hm 2 _ rfl (te := 41) (o := 4) rfl rfl cIvl
    obtain ⟨a0, a1, rfl, rfl⟩ := open_ivl (c0 := c8) (c1 := c9) k0
    obtain ⟨a2, a3, rfl, rfl⟩ := open_ivl (c0 := c10) (c1 := c11) k1
    obtain ⟨a4, a5, rfl, rfl⟩ := open_ivl (c0 := c12) (c1 := c13) k2
    exact ⟨⟨s0, s1, s2, s3, z4, z5, b6, ps, a0, a1, a2, a3, a4, a5⟩, ⟨po, pc, rfl, hk, Nat.le_trans hk1 hk2⟩, y0', y1', y2', y3', y4'⟩
set_option maxRecDepth 100000 in
theorem open_cat_sz {r : Reach} {b0 : Nat} (hv : Value.okWide Try.prog W r b0 24 v) (h : DataW.Trod enc Try.prog W base spare held 24 v d p) : ∃ (ao : Option Addr) (l : List Knd) (cap : Nat), v = .agg #[.slice ao l.length cap] ∧ IsL 3 ElKnd W ao l ∧ l.length ≤ cap ∧ cap ≤ 9223372036854775807 ∧ ∀ k ∈ l, SzKnd k := by
  obtain ⟨ca, rfl, hsz⟩ := okWide_struct Try.underlying24 hv
  obtain ⟨fuel, hf⟩ := h
  obtain ⟨hl, n, hf⟩ := open_field Try.underlying24 hf
  rw [show Try.prog.cellsOf 24 = 1 by kernel_rfl] at hl
  obtain ⟨y0, g0⟩ := fld hf 0 _ rfl (te := 22) (o := 0) rfl rfl cKinds
  obtain ⟨ao, l, cap, e, h1, h2, h3, _⟩ := open_list (size := 3) (El := fun W cs q => ElKnd W cs q ∧ SzKnd q) Try.underlying22 (show Try.prog.cellsOf 78 = 3 by kernel_rfl) (by decide) (fun fuel cs x h => open_knd2 h) g0
  obtain ⟨h1, h4⟩ := h1.both
  have hc : (Value.agg ca).cells.toList = ca.toList := by simp [Value.cells]
  obtain ⟨c, hc2⟩ : ∃ c, ca.toList = [c] := by
    have : ca.toList.length = 1 := by rw [← hc]; exact hl
    match ca.toList, this with
    | [c], _ => exact ⟨c, rfl⟩
  have e : ((Value.agg ca).cells.toList.drop 0).take 1 = [.slice ao l.length cap] := e
  rw [hc, hc2] at e
  have e : [c] = [.slice ao l.length cap] := e
  cases e
  refine ⟨ao, l, cap, ?_, h1, h2, h3, h4⟩
  rw [← Array.toArray_toList (xs := ca), hc2]
set_option maxRecDepth 100000 in
theorem open_state_sz {r : Reach} {b0 : Nat} (hv : Value.okWide Try.prog W r b0 28 v) (h : DataW.Trod enc Try.prog W base spare held 28 v d p) : ∃ (ao : Option Addr) (l : List Prt) (cap : Nat), v = .agg #[.slice ao l.length cap] ∧ IsL 14 ElPrt W ao l ∧ l.length ≤ cap ∧ cap ≤ 9223372036854775807 ∧ ∀ k ∈ l, SzPrt k := by
  obtain ⟨ca, rfl, hsz⟩ := okWide_struct Try.underlying28 hv
  obtain ⟨fuel, hf⟩ := h
  obtain ⟨hl, n, hf⟩ := open_field Try.underlying28 hf
  rw [show Try.prog.cellsOf 28 = 1 by kernel_rfl] at hl
  obtain ⟨y0, g0⟩ := fld hf 0 _ rfl (te := 26) (o := 0) rfl rfl cParts
  obtain ⟨ao, l, cap, e, h1, h2, h3, _⟩ := open_list (size := 14) (El := fun W cs q => ElPrt W cs q ∧ SzPrt q) Try.underlying26 (show Try.prog.cellsOf 45 = 14 by kernel_rfl) (by decide) (fun fuel cs x h => open_prt2 h) g0
  obtain ⟨h1, h4⟩ := h1.both
  have hc : (Value.agg ca).cells.toList = ca.toList := by simp [Value.cells]
  obtain ⟨c, hc2⟩ : ∃ c, ca.toList = [c] := by
    have : ca.toList.length = 1 := by rw [← hc]; exact hl
    match ca.toList, this with
    | [c], _ => exact ⟨c, rfl⟩
  have e : ((Value.agg ca).cells.toList.drop 0).take 1 = [.slice ao l.length cap] := e
  rw [hc, hc2] at e
  have e : [c] = [.slice ao l.length cap] := e
  cases e
  refine ⟨ao, l, cap, ?_, h1, h2, h3, h4⟩
  rw [← Array.toArray_toList (xs := ca), hc2]
end
end Go.Proofs.Ytapjnbofhdljfaa
