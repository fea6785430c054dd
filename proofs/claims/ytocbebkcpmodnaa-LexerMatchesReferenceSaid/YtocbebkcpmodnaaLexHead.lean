/- The laws' head. -/
import Derived.Test.YtocbebkcpmodnaaLexLex
import Derived.Test.YtocbebkcpmodnaaLexName
import Derived.Test.YtocbebkcpmodnaaLexQuote
namespace Go.Proofs.Ytocbebkcpmodnaa
open Go.RowKit

theorem lex_any (T : ByteArray) (hT : T.size ≤ 1407374883512) (W : World) : Calls Try.prog 12 #[.string T] W (LexPost W T) := callsIn_wide.1 (lex_in T hT W)

theorem lex_err (T : ByteArray) (hT : T.size ≤ 20000) (x q : Nat) (hx : Lex.lex T.data.toList = .error (x, q)) (W : World) :
    Calls Try.prog 12 #[.string T] W fun e w' => e = .returned (.tuple #[.slice none 0 0, .int .i64 (x : Nat), .int .i64 (q : Nat)]) ∧ Below W.heap.size W w' :=
  (lex_any T (by omega) W).mono fun e w' ⟨hb, h⟩ => by
    rcases h with ⟨h1, _⟩ | ⟨_, x', q', h2, _, h3⟩ | ⟨_, l, ao, cap, h2, _⟩
    · omega
    · rw [hx] at h2; cases h2; exact ⟨h3, hb⟩
    · rw [hx] at h2; cases h2
/-- The tokens in memory. -/
def Toks (w : World) (B : Nat) (ao : Option Addr) (cap : Nat) (l : List Lex.Tk) : Prop := w.ownsRow B 31 3 (.slice ao l.length cap) l.length (cellsY (l.map fun x => ((x.1 : Int), ⟨x.2.1.toArray⟩, x.2.2, 0)))
theorem lex_ok (T : ByteArray) (hT : T.size ≤ 20000) (l : List Lex.Tk) (hx : Lex.lex T.data.toList = .ok l) (W : World) :
    Calls Try.prog 12 #[.string T] W fun e w' => ∃ ao cap, e = .returned (.tuple #[.slice ao l.length cap, .int .i64 0, .int .i64 0]) ∧ Toks w' W.heap.size ao cap l ∧ Below W.heap.size W w' :=
  (lex_any T (by omega) W).mono fun e w' ⟨hb, h⟩ => by
    rcases h with ⟨h1, _⟩ | ⟨_, x', q', h2, _, h3⟩ | ⟨_, l', ao, cap, h2, h3, h4⟩
    · omega
    · rw [hx] at h2; cases h2
    · rw [hx] at h2; cases h2; exact ⟨ao, cap, h3, h4, hb⟩

theorem cellsY_at : ∀ (l : List Lex.Tk) (j : Nat) (k : Nat) (t : List UInt8) (a : Nat), l[j]? = some (k, t, a) →
    (cellsY (l.map fun x => ((x.1 : Int), (⟨x.2.1.toArray⟩ : ByteArray), x.2.2, (0 : Nat))))[3 * j]? = some (.int .i64 k) ∧ (cellsY (l.map fun x => ((x.1 : Int), (⟨x.2.1.toArray⟩ : ByteArray), x.2.2, (0 : Nat))))[3 * j + 1]? = some (.string ⟨t.toArray⟩) ∧ (cellsY (l.map fun x => ((x.1 : Int), (⟨x.2.1.toArray⟩ : ByteArray), x.2.2, (0 : Nat))))[3 * j + 2]? = some (.int .i64 a)
  | x :: l, 0, k, t, a, h => by cases h; exact ⟨rfl, rfl, rfl⟩
  | x :: l, j + 1, k, t, a, h => by
    have ih := cellsY_at l j k t a h
    have e : ∀ i, (cellsY ((x :: l).map fun x => ((x.1 : Int), (⟨x.2.1.toArray⟩ : ByteArray), x.2.2, (0 : Nat))))[i + 3]? = (cellsY (l.map fun x => ((x.1 : Int), (⟨x.2.1.toArray⟩ : ByteArray), x.2.2, (0 : Nat))))[i]? := fun i => rfl
    have e0 : 3 * (j + 1) = 3 * j + 3 := by omega
    rw [e0, e, show 3 * j + 3 + 1 = (3 * j + 1) + 3 by omega, e, show 3 * j + 3 + 2 = (3 * j + 2) + 3 by omega, e]
    exact ih
/-- One token in memory. -/
theorem toks_at {w : World} {B : Nat} {ao : Option Addr} {cap : Nat} {l : List Lex.Tk} (h : Toks w B ao cap l) {j k : Nat} {t : List UInt8} {a : Nat} (hj : l[j]? = some (k, t, a)) :
    ∃ g, ao = some ⟨g, 0, none⟩ ∧ B ≤ g ∧ g < w.heap.size ∧ w.cell? ⟨g, 3 * j, none⟩ = some (.int .i64 k) ∧ w.cell? ⟨g, 3 * j + 1, none⟩ = some (.string ⟨t.toArray⟩) ∧ w.cell? ⟨g, 3 * j + 2, none⟩ = some (.int .i64 a) := by
  have hjl := (List.getElem?_eq_some_iff.1 hj).1
  rcases h.2 with ⟨_, h0⟩ | ⟨g, cap', cur, hv, hB, hc, _, _, _, htk⟩
  · omega
  · injection hv with hv
    refine ⟨g, hv, hB, (Array.getElem?_eq_some_iff.1 hc).1, ?_⟩
    have hw : Whole w g 31 cur := hc
    have key : ∀ i v, i < l.length * 3 → (cellsY (l.map fun x => ((x.1 : Int), (⟨x.2.1.toArray⟩ : ByteArray), x.2.2, (0 : Nat))))[i]? = some v → w.cell? ⟨g, i, none⟩ = some v := fun i v hi hv => by
      rw [hw.cell, ← Array.getElem?_toList]
      rw [← htk, List.getElem?_take_of_lt hi] at hv
      exact hv
    obtain ⟨h1, h2, h3⟩ := cellsY_at l j k t a hj
    exact ⟨key _ _ (by omega) h1, key _ _ (by omega) h2, key _ _ (by omega) h3⟩

def hT1 : ByteArray := ⟨#[119, 97, 121, 32, 119, 49, 32, 55, 45, 34, 97, 92, 34, 98, 34, 35, 32, 121]⟩
def hL1 : List Lex.Tk := [(1, [119, 97, 121], 0), (1, [119, 49], 4), (2, [55], 7), (4, [45], 8), (3, [97, 34, 98], 9)]
theorem hx1 : Lex.lex hT1.data.toList = .ok hL1 := by rfl
theorem hx2 : Lex.lex (⟨#[97, 32, 33, 98]⟩ : ByteArray).data.toList = .error (10, 2) := by rfl
theorem hx3 : Lex.lex (⟨#[55, 120]⟩ : ByteArray).data.toList = .error (11, 0) := by rfl
theorem hx4 : Lex.lex (⟨#[97, 32, 34, 98]⟩ : ByteArray).data.toList = .error (10, 2) := by rfl
theorem hx5 : Lex.lex (⟨#[10, 97, 98, 99, 100, 101, 102, 103, 104, 105, 106, 107, 108, 109, 110, 111, 112, 113, 114, 115, 116, 117, 118, 119, 120, 121]⟩ : ByteArray).data.toList = .error (7, 1) := by rfl
theorem hn1 : Lex.nameB (⟨#[97, 95, 49]⟩ : ByteArray).data.toList = true := by rfl
theorem hn2 : Lex.nameB (⟨#[49, 97]⟩ : ByteArray).data.toList = false := by rfl
theorem hn3 : Lex.nameB (⟨#[]⟩ : ByteArray).data.toList = false := by rfl
theorem hq1 : Lex.quote (⟨#[97, 10, 92]⟩ : ByteArray).data.toList = [34, 97, 92, 110, 92, 92, 34] := by rfl

set_option maxRecDepth 100000 in
set_option maxHeartbeats 4000000 in
theorem head_any (W : World) : Calls Try.prog 11 #[] W fun e w' => e = .returned (.bool true) ∧ Below W.heap.size W w' := by
  have H1 := Lib.hid (fun w => lex_ok hT1 (by decide) _ hx1 w)
  have H2 := Lib.hid (fun w => lex_err ⟨#[97, 32, 33, 98]⟩ (by decide) _ _ hx2 w)
  have H3 := Lib.hid (fun w => lex_err ⟨#[55, 120]⟩ (by decide) _ _ hx3 w)
  have H4 := Lib.hid (fun w => lex_err ⟨#[97, 32, 34, 98]⟩ (by decide) _ _ hx4 w)
  have H5 := Lib.hid (fun w => lex_err ⟨#[10, 97, 98, 99, 100, 101, 102, 103, 104, 105, 106, 107, 108, 109, 110, 111, 112, 113, 114, 115, 116, 117, 118, 119, 120, 121]⟩ (by decide) _ _ hx5 w)
  have N1 := Lib.hid (fun w => name_any ⟨#[97, 95, 49]⟩ (by decide) w)
  have N2 := Lib.hid (fun w => name_any ⟨#[49, 97]⟩ (by decide) w)
  have N3 := Lib.hid (fun w => name_any ⟨#[]⟩ (by decide) w)
  have Q1 := Lib.hid (fun w => quote_any ⟨#[97, 10, 92]⟩ (by decide) w)
  rw [hn1] at N1
  rw [hn2] at N2
  rw [hn3] at N3
  rw [hq1] at Q1
  go_enter Try.func11, Try.ntmps11
  go_wp2_with fail
  refine (H1.out W).mono ?_
  rintro e w1 ⟨ao, cap, rfl, ht, hb1⟩
  obtain ⟨g, rfl, hg, hlt, -, -, -⟩ := toks_at ht (j := 0) rfl
  have HT := Lib.hid ht
  have HB1 := Lib.hid hb1
  clear ht hb1
  go_wp2_with fail
  refine (H2.out _).mono ?_
  rintro e w2 ⟨rfl, hb⟩
  have HB2 := Lib.hid (hb)
  clear hb
  go_wp2_with fail
  refine (H3.out _).mono ?_
  rintro e w3 ⟨rfl, hb⟩
  have HB3 := Lib.hid (HB2.out.trans (hb.mono HB2.out.size))
  clear hb HB2
  go_wp2_with fail
  refine (H4.out _).mono ?_
  rintro e w4 ⟨rfl, hb⟩
  have HB4 := Lib.hid (HB3.out.trans (hb.mono HB3.out.size))
  clear hb HB3
  go_wp2_with fail
  refine (H5.out _).mono ?_
  rintro e w5 ⟨rfl, hb⟩
  have HB5 := Lib.hid (HB4.out.trans (hb.mono HB4.out.size))
  clear hb HB4
  have cell : ∀ (j k : Nat) (t : List UInt8) (a : Nat), hL1[j]? = some (k, t, a) → w5.cell? ⟨g, 3 * j, none⟩ = some (.int .i64 k) ∧ w5.cell? ⟨g, 3 * j + 1, none⟩ = some (.string ⟨t.toArray⟩) ∧ w5.cell? ⟨g, 3 * j + 2, none⟩ = some (.int .i64 a) := fun j k t a hj => by
    obtain ⟨g', hg', _, _, h1, h2, h3⟩ := toks_at HT.out hj
    injection hg' with hg'
    injection hg' with hg'
    subst hg'
    exact ⟨(cell_below HB5.out hlt _).trans h1, (cell_below HB5.out hlt _).trans h2, (cell_below HB5.out hlt _).trans h3⟩
  obtain ⟨a1, a2, a3⟩ := cell 1 _ _ _ rfl
  obtain ⟨b1, b2, b3⟩ := cell 2 _ _ _ rfl
  obtain ⟨c1, c2, c3⟩ := cell 3 _ _ _ rfl
  obtain ⟨d1, d2, d3⟩ := cell 4 _ _ _ rfl
  clear cell
  go_wp2_with fail
  refine (N1.out _).mono ?_
  rintro e w6 ⟨rfl, rfl⟩
  go_wp2_with fail
  refine (N2.out _).mono ?_
  rintro e w6 ⟨rfl, rfl⟩
  go_wp2_with fail
  refine (N3.out _).mono ?_
  rintro e w6 ⟨rfl, rfl⟩
  go_wp2_with fail
  refine (Q1.out _).mono ?_
  rintro e w7 ⟨rfl, hb⟩
  have HB7 := Lib.hid (HB5.out.trans (hb.mono HB5.out.size))
  clear hb HB5
  go_wp2_with fail
  go_ret
  exact ⟨rfl, HB1.out.trans (HB7.out.mono HB1.out.size)⟩

end Go.Proofs.Ytocbebkcpmodnaa
