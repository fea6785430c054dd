/- event.Parse's closure: one of the tokens behind the first three. -/
import Derived.Test.YtbnofoncapaabaaGreatDoorEvtNum
import Derived.Test.YtbnofoncapaabaaGreatDoorLexLex
import Derived.Test.YtbnofoncapaabaaGreatDoorMemCopy
namespace Go.Proofs.YtbnofoncapaabaaGreatDoor
open Go.RowKit
open Evt

def tkC (x : Lex.Tk) : List Value := [.int .i64 (x.1 : Nat), .string ⟨x.2.1.toArray⟩, .int .i64 (x.2.2 : Nat)]
def ElTk (_ : World) (cs : List Value) (x : Lex.Tk) : Prop := cs = tkC x
theorem stTk : ElStable ElTk := fun _ _ _ _ h _ => h
theorem toks_isL {w : World} {B : Nat} {ao : Option Addr} {cap : Nat} {l : List Lex.Tk} (h : Toks w B ao cap l) : IsL 3 ElTk w ao l := by
  by_cases h0 : l = []
  · exact Or.inl h0
  · have hp : 0 < l.length := List.length_pos_iff.2 h0
    obtain ⟨g, rfl, _, hg, _⟩ := toks_at h (j := 0) (k := l[0].1) (t := l[0].2.1) (a := l[0].2.2) (by rw [List.getElem?_eq_getElem hp])
    refine Or.inr ⟨g, 0, rfl, hg, fun k hk => ⟨tkC l[k], ?_, rfl⟩⟩
    obtain ⟨g', e, _, _, c0, c1, c2⟩ := toks_at h (j := k) (k := l[k].1) (t := l[k].2.1) (a := l[k].2.2) (by rw [List.getElem?_eq_getElem hk])
    injection e with e
    injection e with e
    subst e
    intro j u hj
    have e3 : 0 + k * 3 = 3 * k := by omega
    have hj3 : j < 3 := by have := (List.getElem?_eq_some_iff.1 hj).1; simpa [tkC] using this
    rw [e3]
    have : j = 0 ∨ j = 1 ∨ j = 2 := by omega
    rcases this with rfl | rfl | rfl
    · cases hj; exact c0
    · cases hj; exact c1
    · cases hj; exact c2
def restTk (l : List Lex.Tk) (i : Nat) : Lex.Tk := (l[3 + i]?).getD (0, [], 0)
theorem tk_size : (Tryz.prog.info? 55).map (·.size) = some 3 := by kernel_rfl

set_option maxRecDepth 100000 in
set_option maxHeartbeats 4000000 in
theorem rest_any (l : List Lex.Tk) (_hl : l.length ≤ 1000000) (ao : Option Addr) (cap g4 i : Nat) (hi5 : i ≤ 5) (W : World) (hi : IsL 3 ElTk W ao l) (h4 : g4 < W.heap.size) (c4 : W.cell? ⟨g4, 0, none⟩ = some (.slice ao l.length cap)) :
    Calls Tryz.prog 23 #[.int .i64 (i : Int), .pointer (some ⟨g4, 0, none⟩)] W fun e w' => e = .returned (.agg (tkC (restTk l i)).toArray) ∧ Below W.heap.size W w' := by
  obtain ⟨n, Hn⟩ : ∃ n, Hid (n = l.length) := ⟨_, Lib.hid rfl⟩
  obtain ⟨N, HN⟩ : ∃ N, Hid (N = W.heap.size) := ⟨_, Lib.hid rfl⟩
  obtain ⟨R, HR⟩ : ∃ R, Hid (R = restTk l i) := ⟨_, Lib.hid rfl⟩
  have HI := Lib.hid hi
  have HSp := Lib.hid tk_size
  rw [← HR.out]
  rw [← Hn.out] at c4
  have hw3 : IntKind.i64.wrap (3 + (i : Int)) = ((3 + i : Nat) : Int) := by rw [IntKind.wrap_i64]; omega
  obtain ⟨p, Hp⟩ : ∃ p, Hid (p = 3 + i) := ⟨_, Lib.hid rfl⟩
  have hw3' : (3 : Int) + i = (p : Int) := by have := Hp.out; omega
  have hp9 : p ≤ 8 := by have := Hp.out; omega
  have HOne : Hid ((tkC R).toArray.all (·.oneCell') = true) := Lib.hid (by simp [tkC, Value.oneCell'])
  clear hi hw3
  by_cases hpn : p < n
  · have hd : decide ((n : Int) ≤ p) = false := decide_eq_false (by omega)
    have hd2 : decide (n ≤ p) = false := decide_eq_false (by omega)
    have hb0 : (0 : Int) ≤ p := by omega
    have hb1 : (p : Int) < n := by omega
    have hpl : p < l.length := by rw [← Hn.out]; exact hpn
    obtain ⟨bk, off, cs, rfl, hbk, hrg, rfl⟩ := HI.out.at hpl
    have HRe : Hid (l[p] = R) := Lib.hid (by
      rw [HR.out]
      unfold restTk
      rw [← Hp.out, List.getElem?_eq_getElem hpl]
      rfl)
    rw [HRe.out] at hrg
    obtain ⟨V, HV⟩ : ∃ V, Hid (V = W.alloc (.cells #[.int .i64 0, .string ⟨#[]⟩, .int .i64 0] 55)) := ⟨_, Lib.hid rfl⟩
    have HWV : Hid (Whole V N 55 #[.int .i64 0, .string ⟨#[]⟩, .int .i64 0]) := Lib.hid (by rw [HV.out, HN.out]; exact Whole.new _ _ _)
    have hBV : Below W.heap.size W V := by rw [HV.out]; exact (Below.refl _ _).alloc (Nat.le_refl _) _
    have HRg := Lib.hid (rangeB hrg hbk hBV)
    have HBV := Lib.hid hBV
    have c4' : V.cell? ⟨g4, 0, none⟩ = some (.slice (some ⟨bk, off, none⟩) n cap) := (cellB hBV h4).trans c4
    clear hrg hBV c4
    go_enter Tryz.func23, Tryz.ntmps23
    go_wp2_with (first
      | (with_reducible show wpList _ _ _ (Oper.mk _ (Op.load 50 _) _ _ _ _ :: _) _ _; refine Hid.out ?_))
    refine Lib.hid ?_
    rw [← HV.out, ← HN.out]
    go_wp2_with (first
      | (with_reducible show wpList _ _ _ (Oper.mk _ (Op.load 55 _) _ _ _ _ :: _) _ _; refine Hid.out ?_))
    refine Lib.hid ?_
    refine wpList_load_mid rfl _ _ rfl bk (off + p * 3) rfl (tkC R) _ HRg.out Tryz.underlying55 rfl (HSp.out.trans rfl) ?_
    refine wpList_store_whole rfl _ _ _ rfl N _ _ _ rfl rfl HWV.out (HSp.out.trans rfl) rfl HOne.out ?_
    intro w5 hw5 hg5 hs5
    have HW5 := Lib.hid hw5
    have HB5 : Hid (Below W.heap.size W w5) := Lib.hid (HBV.out.grown hg5 HBV.out.size (fun k e => by cases e; rw [HN.out]; exact Nat.le_refl _))
    clear hw5 hg5 hs5 c4'
    go_wp2_with fail
    exact bodyPost_ret (results_one rfl Tryz.underlying55 rfl _ _ N _ (HSp.out.trans rfl) HW5.out rfl) rfl ⟨rfl, HB5.out⟩
  · have hd : decide ((n : Int) ≤ p) = true := decide_eq_true (by omega)
    have hd2 : decide (n ≤ p) = true := decide_eq_true (by omega)
    have HRe : Hid (tkC R = [.int .i64 0, .string ⟨#[]⟩, .int .i64 0]) := Lib.hid (by
      rw [HR.out]
      unfold restTk
      rw [← Hp.out, List.getElem?_eq_none (by rw [← Hn.out]; omega)]
      rfl)
    obtain ⟨V, HV⟩ : ∃ V, Hid (V = W.alloc (.cells #[.int .i64 0, .string ⟨#[]⟩, .int .i64 0] 55)) := ⟨_, Lib.hid rfl⟩
    have HWV : Hid (Whole V N 55 #[.int .i64 0, .string ⟨#[]⟩, .int .i64 0]) := Lib.hid (by rw [HV.out, HN.out]; exact Whole.new _ _ _)
    have hBV : Below W.heap.size W V := by rw [HV.out]; exact (Below.refl _ _).alloc (Nat.le_refl _) _
    have HBV := Lib.hid hBV
    have c4' : V.cell? ⟨g4, 0, none⟩ = some (.slice ao n cap) := (cellB hBV h4).trans c4
    clear hBV c4
    go_enter Tryz.func23, Tryz.ntmps23
    go_wp2_with (first
      | (with_reducible show wpList _ _ _ (Oper.mk _ (Op.load 50 _) _ _ _ _ :: _) _ _; refine Hid.out ?_))
    refine Lib.hid ?_
    rw [← HV.out, ← HN.out]
    go_wp2_with (first
      | (with_reducible show wpList _ _ _ (Oper.mk _ (Op.store 55 _ _) _ _ _ _ :: _) _ _; refine Hid.out ?_))
    refine Lib.hid ?_
    refine wpList_store_whole rfl _ _ _ rfl N _ _ #[.int .i64 0, .string ⟨#[]⟩, .int .i64 0] rfl rfl HWV.out (HSp.out.trans rfl) rfl (by simp [Value.oneCell']) ?_
    intro w5 hw5 hg5 hs5
    have HW5 : Hid (Whole w5 N 55 (tkC R).toArray) := Lib.hid (by rw [HRe.out]; exact hw5)
    have HB5 : Hid (Below W.heap.size W w5) := Lib.hid (HBV.out.grown hg5 HBV.out.size (fun k e => by cases e; rw [HN.out]; exact Nat.le_refl _))
    clear hw5 hg5 hs5 c4'
    go_wp2_with fail
    exact bodyPost_ret (results_one rfl Tryz.underlying55 rfl _ _ N _ (HSp.out.trans rfl) HW5.out rfl) rfl ⟨rfl, HB5.out⟩
end Go.Proofs.YtbnofoncapaabaaGreatDoor
