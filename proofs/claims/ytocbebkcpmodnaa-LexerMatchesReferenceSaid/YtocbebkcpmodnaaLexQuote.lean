/- Quote. -/
import Derived.Test.YtocbebkcpmodnaaLexBuild
import Derived.Test.YtocbebkcpmodnaaLexBsrW
import Derived.Test.YtocbebkcpmodnaaLexOnce
import Derived.Test.YtocbebkcpmodnaaLexClasses
namespace Go.Proofs.Ytocbebkcpmodnaa
open Go.RowKit

/-- The replacer's block. -/
def rpC (d m : Int) (x3 x4 : Value) : Array Value := #[.int .u32 d, .int .i32 m, .int .u32 0, x3, x4]

/-- What building leaves: the table, and all that is older than the replacer. -/
def BuiltQ (W : World) (R : Nat) (y3 y4 : Value) (w : World) : Prop :=
  ∃ T cs X, y3 = .iface 107 (.pointer (some ⟨T, 0, none⟩)) ∧ y4 = .slice none 0 0 ∧ Tab w T cs X ∧ R ≠ T ∧ R ≠ X ∧ (∀ c q, c < 256 → Lex.repB c = [92, q] → ∀ b cap, cs[c]? = some (.slice (some ⟨b, 0, none⟩) 2 cap) → b ≠ R) ∧ Below W.heap.size W w

theorem Tab.far {W : World} {T X R : Nat} {cs : Array Value} (h : Tab W T cs X) (h1 : R ≠ T) (h2 : R ≠ X) (h3 : ∀ c q, c < 256 → Lex.repB c = [92, q] → ∀ b cap, cs[c]? = some (.slice (some ⟨b, 0, none⟩) 2 cap) → b ≠ R) (i : Nat) (v : Value) : Tab (W.setCell ⟨R, i, none⟩ v) T cs X :=
  ⟨h.size, h.row.far (p := ⟨R, i, none⟩) (fun e => h1 e.symm) v, h.list, h.texts.far (p := ⟨R, i, none⟩) (fun e => h2 e.symm) v, h.no, fun c q hc hq => by
    obtain ⟨b, cap, g1, g2, g3, g4⟩ := h.yes c q hc hq
    have hb := h3 c q hc hq b cap g1
    have e1 := Below.heap_setCell W ⟨R, i, none⟩ v b hb
    exact ⟨b, cap, g1, by rw [World.size_setCell]; exact g2, by simp only [World.cell?, e1]; exact g3, by simp only [World.cell?, e1]; exact g4⟩⟩
theorem Tab.drew {W : World} {T X : Nat} {cs : Array Value} (h : Tab W T cs X) : Tab W.drew T cs X := ⟨h.size, h.row, h.list, h.texts, h.no, h.yes⟩

theorem built_once {W : World} {R : Nat} (hR : W.heap.size ≤ R) : OnceQ R (BuiltQ W R) :=
  ⟨fun y3 y4 A i v ⟨T, cs, X, e1, e2, h, h1, h2, h3, hb⟩ => ⟨T, cs, X, e1, e2, h.far h1 h2 h3 i v, h1, h2, h3, hb.setCell (p := ⟨R, i, none⟩) hR v⟩,
   fun y3 y4 A ⟨T, cs, X, e1, e2, h, h1, h2, h3, hb⟩ => ⟨T, cs, X, e1, e2, h.drew, h1, h2, h3, hb.drew⟩⟩

set_option maxRecDepth 100000 in
set_option maxHeartbeats 1600000 in
theorem once_build (W w : World) (R A cap : Nat) (x3 : Value) (hWR : W.heap.size ≤ R) (h : Whole w R 78 #[.int .u32 0, .int .i32 1, .int .u32 0, x3, .slice (some ⟨A, 0, none⟩) 6 cap]) (hA : Six w A) (hb : Below W.heap.size W w) :
    Calls Try.prog 41 #[.pointer (some ⟨R, 0, none⟩)] w fun e w2 => e = .returned (.tuple #[]) ∧ ∃ y3 y4, Whole w2 R 78 #[.int .u32 0, .int .i32 1, .int .u32 0, y3, y4] ∧ BuiltQ W R y3 y4 w2 := by
  have HB := Lib.hid (build_any R A cap w (h.cell 4) hA)
  have H := Lib.hid h
  have Hb := Lib.hid hb
  have hlt := h.lt
  clear h hA hb
  go_enter Try.func41, Try.ntmps41
  go_wp2_with fail
  refine HB.out.mono ?_
  rintro e w2 ⟨T, cs, X, rfl, hT, hb2, hTw, hXw, hbw⟩
  have h2 : Whole w2 R 78 _ := (hb2.block R hlt).trans H.out
  have kf : w2.frozen? ⟨R, 3, none⟩ = false := h2.frozen 3
  have kc : w2.cell? ⟨R, 3, none⟩ = some x3 := h2.cell 3
  have kg : w2.frozen? ⟨R, 4, none⟩ = false := h2.frozen 4
  have kd : w2.cell? ⟨R, 4, none⟩ = some (.slice (some ⟨A, 0, none⟩) 6 cap) := h2.cell 4
  have H2 := Lib.hid h2
  have HT := Lib.hid hT
  have HB2 := Lib.hid hb2
  clear h2 hT hb2
  have HBW := Lib.hid hbw
  clear hbw
  go_wp2_with fail
  go_end0
  have h3 := (H2.out.set 3 (.iface 107 (.pointer (some ⟨T, 0, none⟩)))).set 4 (.slice none 0 0)
  have hne : R ≠ T := by omega
  have hnx : R ≠ X := by omega
  have hnb : ∀ c q, c < 256 → Lex.repB c = [92, q] → ∀ b cap, cs[c]? = some (.slice (some ⟨b, 0, none⟩) 2 cap) → b ≠ R := fun c q hc hq b cap hb => by
    have := HBW.out c q hc hq b cap hb; omega
  refine ⟨rfl, _, _, h3, T, cs, X, rfl, rfl, (HT.out.far hne hnx hnb 3 _).far hne hnx hnb 4 _, hne, hnx, hnb, ?_⟩
  exact ((Hb.out.trans (HB2.out.mono Hb.out.size)).setCell (p := ⟨R, 3, none⟩) hWR _).setCell (p := ⟨R, 4, none⟩) hWR _

theorem own_six {w : World} {B : Nat} {v : Value} (h : w.ownsRow B 9 1 v (0 + 6) ([] ++ Lex.six.map Value.string)) : ∃ g cap, v = .slice (some ⟨g, 0, none⟩) 6 cap ∧ Six w g ∧ B ≤ g := by
  rcases h.2 with ⟨_, h0⟩ | ⟨g, cap, cur, hv, hB, hc, _, _, _, htk⟩
  · omega
  · refine ⟨g, cap, hv, ⟨(Array.getElem?_eq_some_iff.1 hc).1, fun i s hs => ?_⟩, hB⟩
    have hw : Whole w g 9 cur := hc
    rw [hw.cell]
    have hi : i < 6 := by
      have := (List.getElem?_eq_some_iff.1 hs).1
      simpa [Lex.six] using this
    have h1 : (cur.toList.take ((0 + 6) * 1))[i]? = (Lex.six.map Value.string)[i]? := by rw [htk]; rfl
    rw [List.getElem?_take_of_lt (by omega), List.getElem?_map, hs] at h1
    rw [← Array.getElem?_toList]
    exact h1
theorem addr_add (A j : Nat) : Addr.add ⟨A, 0, none⟩ j = ⟨A, j, none⟩ := by cases j <;> simp [Addr.add]
theorem six_cell {W : World} {A j : Nat} {u : Value} (h : Six W A) (hu : (Lex.six.map Value.string)[j]? = some u) : W.cell? (Addr.add ⟨A, 0, none⟩ j) = some u := by
  rw [List.getElem?_map] at hu
  cases hs : Lex.six[j]? with
  | none => rw [hs] at hu; cases hu
  | some s =>
    rw [hs] at hu
    cases hu
    rw [addr_add]
    exact h.2 j s hs

set_option maxRecDepth 100000 in
set_option maxHeartbeats 1600000 in
theorem new_replacer (W : World) (A0 : Nat) (hA : Six W A0) : Calls Try.prog 31 #[.slice (some ⟨A0, 0, none⟩) 6 6] W fun e w' => ∃ R A cap x3, e = .returned (.pointer (some ⟨R, 0, none⟩)) ∧
    Whole w' R 78 #[.int .u32 0, .int .i32 0, .int .u32 0, x3, .slice (some ⟨A, 0, none⟩) 6 cap] ∧ Six w' A ∧ Below W.heap.size W w' ∧ W.heap.size ≤ R ∧ A ≠ R := by
  have HA := Lib.hid hA
  clear hA
  obtain ⟨i1, hi1⟩ : ∃ i, (Try.prog.info? 9) = some i := ⟨_, rfl⟩
  have hy0 : i1.zero = some (.string ⟨#[]⟩) := by
    have : (Try.prog.info? 9).bind (·.zero) = some (.string ⟨#[]⟩) := by kernel_rfl
    rw [hi1] at this; exact this
  have hy1 : i1.size = 1 := by
    have : (Try.prog.info? 9).map (·.size) = some 1 := by kernel_rfl
    rw [hi1] at this; exact Option.some.inj this
  have hy2 : i1.bytes = 16 := by
    have : (Try.prog.info? 9).map (·.bytes) = some 16 := by kernel_rfl
    rw [hi1] at this; exact Option.some.inj this
  go_enter Try.func31, Try.ntmps31
  go_wp2_with (at_builtin; go_loud (refine wpList_append_own _ rfl (.const (.slice none 0 0)) (.tmp 8) 62 rfl W.heap.size 9 i1 (.string ⟨#[]⟩) 1 16 Try.underlying62 hi1 hy0 hy1 hy2 rfl (by omega) (.slice none 0 0) 0 [] rfl (World.ownsRow_nil _ _ _ _) ⟨A0, 0, none⟩ 6 6 (Lex.six.map Value.string) rfl rfl (fun j u hu => six_cell HA.out hu) (by simp [Lex.six, Value.oneCell']) (by unfold maxLen; omega) (by omega) (Nat.le_refl _) ?_); intro v' w' hown hgr hnil; obtain ⟨g, cap, rfl, h6, hBg⟩ := own_six hown; have HO := Lib.hid h6; have HG := Lib.hid hgr; clear h6 hown hgr hnil)
  go_ret
  have hbl : Below W.heap.size W w' := ⟨HG.out.os, HG.out.tape, HG.out.output, HG.out.size, fun k hk => HG.out.block k hk (by simp [Value.ownBlock])⟩
  exact ⟨w'.heap.size, g, cap, _, rfl, Whole.new _ _ _, HO.out.below (Below.refl _ _ |>.alloc (Nat.le_refl _) _), hbl.alloc hbl.size _, hbl.size, by have := HO.out.1; omega⟩

set_option maxRecDepth 100000 in
set_option maxHeartbeats 1600000 in
theorem replace_any (W w : World) (R A cap : Nat) (x3 : Value) (S : ByteArray) (hS : S.size ≤ 100000000) (hWR : W.heap.size ≤ R) (h : Whole w R 78 #[.int .u32 0, .int .i32 0, .int .u32 0, x3, .slice (some ⟨A, 0, none⟩) 6 cap]) (hA : Six w A) (hAR : A ≠ R) (hb : Below W.heap.size W w) :
    Calls Try.prog 32 #[.pointer (some ⟨R, 0, none⟩), .string S] w fun e w' => e = .returned (.string ⟨(Lex.enc S.data.toList).toArray⟩) ∧ Below W.heap.size W w' := by
  have HD := Lib.hid (once_do R x3 (.slice (some ⟨A, 0, none⟩) 6 cap) (BuiltQ W R) (built_once hWR) w h (fun w1 hw1 => by
    subst hw1
    refine once_build W _ R A cap x3 hWR (h.set 1 _) ⟨by rw [World.size_setCell]; exact hA.1, fun i s hs => ?_⟩ (hb.setCell (p := ⟨R, 1, none⟩) hWR _)
    have e1 := Below.heap_setCell w ⟨R, 1, none⟩ (.int .i32 1) A hAR
    have := hA.2 i s hs
    simp only [World.cell?, e1] at this ⊢
    exact this))
  clear h hA hb
  go_enter Try.func32, Try.ntmps32
  go_wp2_with fail
  refine HD.out.mono ?_
  rintro e w2 ⟨rfl, y3, y4, hR, T, cs, X, rfl, rfl, hT, h1, h2, h3, hb⟩
  have kr : w2.cell? ⟨R, 3, none⟩ = some (.iface 107 (.pointer (some ⟨T, 0, none⟩))) := hR.cell 3
  have HT := Lib.hid hT
  have HB := Lib.hid hb
  clear hR hT hb h3
  go_wp2_with fail
  refine (bsr_any T X cs S hS w2 HT.out).mono ?_
  rintro e w3 ⟨rfl, hb3⟩
  replace hb3 := Lib.hid hb3
  go_wp2_with fail
  go_ret
  exact ⟨rfl, HB.out.trans (hb3.out.mono HB.out.size)⟩

set_option maxRecDepth 100000 in
set_option maxHeartbeats 1600000 in
theorem quote_any (S : ByteArray) (hS : S.size ≤ 100000000) (W : World) :
    Calls Try.prog 17 #[.string S] W fun e w' => e = .returned (.string ⟨(Lex.quote S.data.toList).toArray⟩) ∧ Below W.heap.size W w' := by
  go_enter Try.func17, Try.ntmps17
  go_wp2_with fail
  obtain ⟨w0, Hw0⟩ : ∃ x, Hid (x = W.alloc (.cells #[.string ⟨#[92]⟩, .string ⟨#[92, 92]⟩, .string ⟨#[34]⟩, .string ⟨#[92, 34]⟩, .string ⟨#[10]⟩, .string ⟨#[92, 110]⟩] 9)) := ⟨_, Lib.hid rfl⟩
  have H6 : Six w0 W.heap.size := by
    rw [Hw0.out]
    refine ⟨by rw [size_alloc]; omega, fun i s hs => ?_⟩
    refine (cell_new W _ _ _ i).trans ?_
    have e : (#[.string ⟨#[92]⟩, .string ⟨#[92, 92]⟩, .string ⟨#[34]⟩, .string ⟨#[92, 34]⟩, .string ⟨#[10]⟩, .string ⟨#[92, 110]⟩] : Array Value) = (Lex.six.map Value.string).toArray := rfl
    rw [e, List.getElem?_toArray, List.getElem?_map, hs]; rfl
  have HB0 : Hid (Below W.heap.size W w0) := Lib.hid (by rw [Hw0.out]; exact (Below.refl _ _).alloc (Nat.le_refl _) _)
  rw [← Hw0.out]
  refine (new_replacer w0 W.heap.size H6).mono ?_
  rintro e w1 ⟨R, A, cap, x3, rfl, hR, hA, hb, hWR, hAR⟩
  have hWR' := HB0.out.size
  have HR := Lib.hid (replace_any W w1 R A cap x3 S hS (by omega) hR hA hAR (HB0.out.trans (hb.mono HB0.out.size)))
  clear H6 hR hA hb hAR
  go_wp2_with fail
  refine HR.out.mono ?_
  rintro e w2 ⟨rfl, hb2⟩
  replace hb2 := Lib.hid hb2
  obtain ⟨X, HX⟩ : ∃ X : ByteArray, Hid (X = ⟨(Lex.enc S.data.toList).toArray⟩) := ⟨_, Lib.hid rfl⟩
  have hXs : X.size ≤ 200000000 := by
    have h1 := (Lex.enc_len S.data.toList).2
    have h2 : S.data.toList.length = S.size := rfl
    rw [HX.out]
    show (Lex.enc S.data.toList).toArray.size ≤ _
    rw [List.size_toArray]; omega
  rw [← HX.out]
  have hq1 : ¬ (9223372036854775807 < 1 + X.size) := by omega
  have hq2 : ¬ (9223372036854775807 < 1 + X.size + 1) := by omega
  go_wp2_with fail
  go_ret
  refine ⟨?_, hb2.out⟩
  rw [HX.out]
  have e : (⟨#[34]⟩ ++ ⟨(Lex.enc S.data.toList).toArray⟩ ++ ⟨#[34]⟩ : ByteArray) = ⟨(Lex.quote S.data.toList).toArray⟩ := by
    apply ByteArray.ext
    rw [ByteArray.data_append, ByteArray.data_append]
    apply Array.ext'
    simp [Lex.quote]
  rw [e]
  rfl

end Go.Proofs.Ytocbebkcpmodnaa
