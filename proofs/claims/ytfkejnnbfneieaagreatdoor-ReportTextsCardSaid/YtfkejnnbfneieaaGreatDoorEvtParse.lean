/- event's number and operation. -/
import Derived.Test.YtfkejnnbfneieaaGreatDoorEvtParM
import Derived.Test.YtfkejnnbfneieaaGreatDoorWords
import Derived.Test.YtfkejnnbfneieaaGreatDoorShelf
import Derived.Test.YtfkejnnbfneieaaGreatDoorLexLex
import Derived.Test.YtfkejnnbfneieaaGreatDoorMemCopy
import Derived.Test.YtfkejnnbfneieaaGreatDoorEvtText
import Derived.Test.YtfkejnnbfneieaaGreatDoorRunW
import Derived.Lib.AtoiBound
namespace Go.Proofs.YtfkejnnbfneieaaGreatDoor
open Go.RowKit
open Evt

/-- The library's errors for texts that are no numbers, and for numbers that are too great, in a world. -/
def Errs (w : World) : Prop := (∃ te pe, w.cell? ⟨2, 0, none⟩ = some (.iface te pe)) ∧ (∃ te pe, w.cell? ⟨3, 0, none⟩ = some (.iface te pe))
theorem Errs.below {w w' : World} (h : Errs w) (hb : Below w.heap.size w w') : Errs w' := by
  obtain ⟨⟨te, pe, hc⟩, ⟨te2, pe2, hc2⟩⟩ := h
  have lt : 2 < w.heap.size := Lib.lt_of_cell hc
  have lt2 : 3 < w.heap.size := Lib.lt_of_cell hc2
  exact ⟨⟨te, pe, (hb.cell (p := ⟨2, 0, none⟩) lt).trans hc⟩, ⟨te2, pe2, (hb.cell (p := ⟨3, 0, none⟩) lt2).trans hc2⟩⟩
def AtoiPost (s : ByteArray) (W : World) (e : Ending) (w' : World) : Prop := ∃ (n : Int) (ev : Value), e = .returned (.tuple #[.int .i64 n, ev]) ∧ (ev = .nilIface ∨ ∃ t p, ev = .iface t p) ∧ (∀ z, s.size ≤ 18 → Lib.atoi s.data.toList = some z → n = z ∧ ev = .nilIface) ∧ Below W.heap.size W w'
theorem atoi_post (s : ByteArray) (hs : s.size ≤ 281474976710656) (w : World) (h : Errs w) : Calls Tryz.prog 64 #[.string s] w (AtoiPost s w) := by
  obtain ⟨⟨te, pe, hc⟩, ⟨te2, pe2, hc2⟩⟩ := h
  by_cases hl : s.size ≤ 18
  · rcases hq : Lib.atoi s.data.toList with _ | n
    · exact (Tryz.strconv_Atoi_err s hl hq _ w hc (Or.inr ⟨_, _, rfl⟩)).mono fun e w' ⟨N, h1, _, _, h2⟩ => ⟨_, _, h1, Or.inr ⟨_, _, rfl⟩, (fun z _ hz => by rw [hq] at hz; cases hz), h2⟩
    · exact (Tryz.strconv_Atoi s n hl hq w).mono fun e w' ⟨h1, t, h2⟩ => ⟨_, _, h1, Or.inl rfl, (fun z _ hz => by rw [hq] at hz; cases hz; exact ⟨rfl, rfl⟩), by rw [h2]; exact Lib.bytesWorld_below _ _ _⟩
  · rcases hq : Lib.atoiAll s.data.toList with v | _ | _
    · exact (Tryz.strconv_Atoi_ok s (by omega) v hq w).mono fun e w' ⟨h1, h2⟩ => ⟨_, _, h1, Or.inl rfl, fun z hz _ => absurd hz hl, by
        rcases h2 with rfl | ⟨t, rfl⟩
        · exact Below.refl _ _
        · exact Lib.bytesWorld_below _ _ _⟩
    · exact (Tryz.strconv_Atoi_syntax s hs hq _ w hc (Or.inr ⟨_, _, rfl⟩)).mono fun e w' ⟨N, h1, _, _, h2⟩ => ⟨_, _, h1, Or.inr ⟨_, _, rfl⟩, fun z hz _ => absurd hz hl, h2⟩
    · exact (Tryz.strconv_Atoi_range s hs hq _ w hc2 (Or.inr ⟨_, _, rfl⟩)).mono fun e w' ⟨N, h1, _, _, h2⟩ => ⟨_, _, h1, Or.inr ⟨_, _, rfl⟩, fun z hz _ => absurd hz hl, h2⟩

set_option maxRecDepth 100000 in
set_option maxHeartbeats 4000000 in
theorem number_any (k : Nat) (t : ByteArray) (a : Int) (ho : okT (k, t.data.toList)) (ht : t.size ≤ 281474976710656) (W : World) (hE : Errs W) :
    Calls Tryz.prog 40 #[.agg #[.int .i64 (k : Int), .string t, .int .i64 a]] W fun e w' => e = .returned (.int .i64 (ktN (k, t.data.toList))) ∧ Below W.heap.size W w' := by
  obtain ⟨V, HV⟩ : ∃ w, Hid (w = W.alloc (.cells #[.int .i64 (k : Int), .string t, .int .i64 a] 71)) := ⟨_, Lib.hid rfl⟩
  obtain ⟨N, HN⟩ : ∃ N, Hid (N = W.heap.size) := ⟨_, Lib.hid rfl⟩
  have HB : Hid (Below W.heap.size W V) := Lib.hid (by rw [HV.out]; exact (Below.refl _ _).alloc (Nat.le_refl _) _)
  have HW : Hid (Whole V N 71 #[.int .i64 (k : Int), .string t, .int .i64 a]) := Lib.hid (by rw [HV.out, HN.out]; exact Whole.new _ _ _)
  have HA := Lib.hid (atoi_post t ht V (hE.below HB.out))
  obtain ⟨R, HR⟩ : ∃ R, Hid (R = ktN (k, t.data.toList)) := ⟨_, Lib.hid rfl⟩
  have HNo : Hid (k ≠ 2 → R = -1) := Lib.hid (fun h => by rw [HR.out]; unfold ktN; exact if_neg h)
  have HYes : Hid (k = 2 → t.size ≤ 18 ∧ Lib.atoi t.data.toList = some R) := Lib.hid (fun h => by
    obtain ⟨h1, n, h2⟩ := ho h
    refine ⟨Nat.le_trans (show t.size ≤ 7 from h1) (by omega), ?_⟩
    rw [HR.out]
    unfold ktN
    rw [if_pos h]
    dsimp only at h2 ⊢
    rw [h2]; rfl)
  rw [← HR.out]
  clear ho ht hE
  go_enter Tryz.func40, Tryz.ntmps40
  go_wp2_with fail
  rw [← HV.out, ← HN.out]
  refine HA.out.mono ?_
  rintro e w1 ⟨n, ev, rfl, hev, hz, hb⟩
  have HZ := Lib.hid hz
  have HB1 := Lib.hid (below_step HB.out hb)
  have c0 : w1.cell? ⟨N, 0, none⟩ = some (.int .i64 (k : Int)) := (whole_belowM HW.out hb).cell 0
  clear hb hz
  by_cases hk : k = 2
  · obtain ⟨h18, hat⟩ := HYes.out hk
    obtain ⟨rfl, rfl⟩ := HZ.out _ h18 hat
    subst hk
    clear hev h18 hat
    go_wp2_with fail
    go_ret
    exact ⟨rfl, HB1.out⟩
  · obtain rfl := HNo.out hk
    have hd : ((k : Int) == 2) = false := by simp; omega
    have hd' : ((k : Int) != 2) = true := by simp; omega
    rcases hev with rfl | ⟨t1, p1, rfl⟩
    all_goals
      go_wp2_with fail
      go_ret
      exact ⟨rfl, HB1.out⟩

namespace Evt
theorem opW_at {w : List UInt8} {k : Nat} (hk : k < 8) (hx : (wordsL.getD k []) = w) (hb : ∀ j, j < k → wordsL.getD j [] ≠ w) : opW w = k := by
  unfold opW
  have : wordsL.findIdx? (· == w) = some k := by
    rw [List.findIdx?_eq_some_iff_getElem]
    have hl : wordsL.length = 8 := rfl
    refine ⟨by omega, ?_, fun j hj => ?_⟩
    · have e : wordsL.getD k [] = wordsL[k]'(by omega) := by rw [List.getD_eq_getElem?_getD, List.getElem?_eq_getElem]; rfl
      rw [← e, hx]; simp
    · have e : wordsL.getD j [] = wordsL[j]'(by omega) := by rw [List.getD_eq_getElem?_getD, List.getElem?_eq_getElem]; rfl
      have := hb j hj
      rw [e] at this
      simpa using this
  rw [this]; rfl
theorem opW_none {w : List UInt8} (hb : ∀ j, j < 8 → wordsL.getD j [] ≠ w) : opW w = 0 := by
  unfold opW
  have : wordsL.findIdx? (· == w) = none := by
    rw [List.findIdx?_eq_none_iff]
    intro x hx
    obtain ⟨j, hj, rfl⟩ := List.getElem_of_mem hx
    have hl : wordsL.length = 8 := rfl
    have e : wordsL.getD j [] = wordsL[j] := by rw [List.getD_eq_getElem?_getD, List.getElem?_eq_getElem]; rfl
    have := hb j (by omega)
    rw [e] at this
    simpa using this
  rw [this]; rfl
theorem opW_bound (w : List UInt8) : 0 ≤ opW w ∧ opW w ≤ 7 := by
  unfold opW
  cases h : wordsL.findIdx? (· == w) with
  | none => simp
  | some k =>
    obtain ⟨hk, _⟩ := List.findIdx?_eq_some_iff_getElem.1 h
    have hl : wordsL.length = 8 := rfl
    simp only [Option.getD_some]
    omega
end Evt
theorem eq_bts {s : List UInt8} {t : ByteArray} : ((⟨s.toArray⟩ : ByteArray).toList == t.toList) = decide (s = t.data.toList) := by
  rw [ByteArray.toList_eq, ByteArray.toList_eq]
  by_cases h : s = t.data.toList
  · rw [decide_eq_true h, h]; simp
  · rw [decide_eq_false h]
    simpa using h
set_option maxRecDepth 100000 in
set_option maxHeartbeats 4000000 in
theorem operation_any (s : ByteArray) (W : World) (hT : WTab W) :
    Calls Tryz.prog 39 #[.string s] W fun e w' => e = .returned (.int .i64 (opW s.data.toList)) ∧ w' = W := by
  have HT := Lib.hid hT
  clear hT
  obtain ⟨R, HR⟩ : ∃ R, Hid (R = opW s.data.toList) := ⟨_, Lib.hid rfl⟩
  rw [← HR.out]
  go_enter Tryz.func39, Tryz.ntmps39
  go_wp2_with fail
  go_loop [4] (fun i => ∃ k : Nat, k ≤ 8 ∧ i = .int .i64 k ∧ Hid (∀ j, j < k → wordsL.getD j [] ≠ s.data.toList)) (fun i => 8 - (intOf i).toNat)
  case atStart => exact ⟨0, by omega, by go_num, Lib.hid (fun j h => by omega)⟩
  case round =>
    obtain ⟨k, hk, rfl, HK⟩ := hrel
    by_cases hk8 : k < 8
    · have hd : decide ((k : Int) < 8) = true := decide_eq_true (by omega)
      have hb0 : (0 : Int) ≤ k := by omega
      have hb1 : (k : Int) < 8 := by omega
      obtain ⟨x, Hx⟩ : ∃ x : ByteArray, Hid (x = ⟨(wordsL.getD k []).toArray⟩) := ⟨_, Lib.hid rfl⟩
      have cx : W.cell? ⟨0, k, none⟩ = some (.string x) := by
        rw [Hx.out]
        refine HT.out.cell ?_
        have hl : wordsL.length = 8 := rfl
        rw [List.getD_eq_getElem?_getD, List.getElem?_eq_getElem (by omega)]
        rfl
      obtain ⟨b, hb⟩ : ∃ b, (x.toList == s.toList) = b := ⟨_, rfl⟩
      have HBe : Hid (decide (wordsL.getD k [] = s.data.toList) = b) := Lib.hid (by rw [← hb, Hx.out, eq_bts])
      cases b with
      | true =>
        obtain rfl : R = (k : Int) := by
          rw [HR.out]
          exact opW_at hk8 (of_decide_eq_true HBe.out) HK.out
        go_wp2_with fail
        go_ret
        exact ⟨rfl, rfl⟩
      | false =>
        have HNx : Hid (∀ j, j < k + 1 → wordsL.getD j [] ≠ s.data.toList) := Lib.hid (fun j hj => by
          by_cases h : j < k
          · exact HK.out j h
          · obtain rfl : j = k := by omega
            exact of_decide_eq_false HBe.out)
        go_wp2_with fail
        go_round
        case rel => exact ⟨k + 1, by omega, by go_num, HNx⟩
        case measure => simp [intOf]; omega
    · obtain rfl : k = 8 := by omega
      obtain rfl : R = 0 := by rw [HR.out]; exact opW_none HK.out
      go_wp2_with fail
      go_ret
      exact ⟨rfl, rfl⟩
end Go.Proofs.YtfkejnnbfneieaaGreatDoor

/- event.Parse's closure: one of the tokens behind the first three. -/
namespace Go.Proofs.YtfkejnnbfneieaaGreatDoor
open Go.RowKit
open Evt

def tkC (x : Lex.Tk) : List Value := [.int .i64 (x.1 : Nat), .string ⟨x.2.1.toArray⟩, .int .i64 (x.2.2 : Nat)]
def ElTk (_ : World) (cs : List Value) (x : Lex.Tk) : Prop := cs = tkC x
theorem stTk : ElStable ElTk := fun _ _ _ _ h _ => h
theorem toks_isL {w : World} {B : Nat} {ao : Option Addr} {cap : Nat} {l : List Lex.Tk} (h : Toks w B ao cap l) : IsL 3 ElTk w ao l := by
  by_cases h0 : l = []
  · exact Or.inl h0
  · have hp : 0 < l.length := List.length_pos_iff.2 h0
    obtain ⟨g, rfl, _, hg, _⟩ := toks_at h (j := 0) (k := l[0].1) (t := l[0].2.1) (a := l[0].2.2) (by rw [List.getElem?_eq_getElem hp])
    refine Or.inr ⟨g, 0, rfl, hg, fun k hk => ⟨tkC l[k], ?_, rfl⟩⟩
    obtain ⟨g', e, _, _, c0, c1, c2⟩ := toks_at h (j := k) (k := l[k].1) (t := l[k].2.1) (a := l[k].2.2) (by rw [List.getElem?_eq_getElem hk])
    injection e with e
    injection e with e
    subst e
    intro j u hj
    have e3 : 0 + k * 3 = 3 * k := by omega
    have hj3 : j < 3 := by have := (List.getElem?_eq_some_iff.1 hj).1; simpa [tkC] using this
    rw [e3]
    have : j = 0 ∨ j = 1 ∨ j = 2 := by omega
    rcases this with rfl | rfl | rfl
    · cases hj; exact c0
    · cases hj; exact c1
    · cases hj; exact c2
def restTk (l : List Lex.Tk) (i : Nat) : Lex.Tk := (l[3 + i]?).getD (0, [], 0)
theorem tk_size : (Tryz.prog.info? 71).map (·.size) = some 3 := by kernel_rfl

set_option maxRecDepth 100000 in
set_option maxHeartbeats 4000000 in
theorem rest_any (l : List Lex.Tk) (_hl : l.length ≤ 1000000) (ao : Option Addr) (cap g4 i : Nat) (hi5 : i ≤ 5) (W : World) (hi : IsL 3 ElTk W ao l) (h4 : g4 < W.heap.size) (c4 : W.cell? ⟨g4, 0, none⟩ = some (.slice ao l.length cap)) :
    Calls Tryz.prog 41 #[.int .i64 (i : Int), .pointer (some ⟨g4, 0, none⟩)] W fun e w' => e = .returned (.agg (tkC (restTk l i)).toArray) ∧ Below W.heap.size W w' := by
  obtain ⟨n, Hn⟩ : ∃ n, Hid (n = l.length) := ⟨_, Lib.hid rfl⟩
  obtain ⟨N, HN⟩ : ∃ N, Hid (N = W.heap.size) := ⟨_, Lib.hid rfl⟩
  obtain ⟨R, HR⟩ : ∃ R, Hid (R = restTk l i) := ⟨_, Lib.hid rfl⟩
  have HI := Lib.hid hi
  have HSp := Lib.hid tk_size
  rw [← HR.out]
  rw [← Hn.out] at c4
  have hw3 : IntKind.i64.wrap (3 + (i : Int)) = ((3 + i : Nat) : Int) := by rw [IntKind.wrap_i64]; omega
  obtain ⟨p, Hp⟩ : ∃ p, Hid (p = 3 + i) := ⟨_, Lib.hid rfl⟩
  have hw3' : (3 : Int) + i = (p : Int) := by have := Hp.out; omega
  have hp9 : p ≤ 8 := by have := Hp.out; omega
  have HOne : Hid ((tkC R).toArray.all (·.oneCell') = true) := Lib.hid (by simp [tkC, Value.oneCell'])
  clear hi hw3
  by_cases hpn : p < n
  · have hd : decide ((n : Int) ≤ p) = false := decide_eq_false (by omega)
    have hd2 : decide (n ≤ p) = false := decide_eq_false (by omega)
    have hb0 : (0 : Int) ≤ p := by omega
    have hb1 : (p : Int) < n := by omega
    have hpl : p < l.length := by rw [← Hn.out]; exact hpn
    obtain ⟨bk, off, cs, rfl, hbk, hrg, rfl⟩ := HI.out.at hpl
    have HRe : Hid (l[p] = R) := Lib.hid (by
      rw [HR.out]
      unfold restTk
      rw [← Hp.out, List.getElem?_eq_getElem hpl]
      rfl)
    rw [HRe.out] at hrg
    obtain ⟨V, HV⟩ : ∃ V, Hid (V = W.alloc (.cells #[.int .i64 0, .string ⟨#[]⟩, .int .i64 0] 71)) := ⟨_, Lib.hid rfl⟩
    have HWV : Hid (Whole V N 71 #[.int .i64 0, .string ⟨#[]⟩, .int .i64 0]) := Lib.hid (by rw [HV.out, HN.out]; exact Whole.new _ _ _)
    have hBV : Below W.heap.size W V := by rw [HV.out]; exact (Below.refl _ _).alloc (Nat.le_refl _) _
    have HRg := Lib.hid (rangeB hrg hbk hBV)
    have HBV := Lib.hid hBV
    have c4' : V.cell? ⟨g4, 0, none⟩ = some (.slice (some ⟨bk, off, none⟩) n cap) := (cellB hBV h4).trans c4
    clear hrg hBV c4
    go_enter Tryz.func41, Tryz.ntmps41
    go_wp2_with (first
      | (with_reducible show wpList _ _ _ (Oper.mk _ (Op.load 66 _) _ _ _ _ :: _) _ _; refine Hid.out ?_))
    refine Lib.hid ?_
    rw [← HV.out, ← HN.out]
    go_wp2_with (first
      | (with_reducible show wpList _ _ _ (Oper.mk _ (Op.load 71 _) _ _ _ _ :: _) _ _; refine Hid.out ?_))
    refine Lib.hid ?_
    refine wpList_load_mid rfl _ _ rfl bk (off + p * 3) rfl (tkC R) _ HRg.out Tryz.underlying71 rfl (HSp.out.trans rfl) ?_
    refine wpList_store_whole rfl _ _ _ rfl N _ _ _ rfl rfl HWV.out (HSp.out.trans rfl) rfl HOne.out ?_
    intro w5 hw5 hg5 hs5
    have HW5 := Lib.hid hw5
    have HB5 : Hid (Below W.heap.size W w5) := Lib.hid (HBV.out.grown hg5 HBV.out.size (fun k e => by cases e; rw [HN.out]; exact Nat.le_refl _))
    clear hw5 hg5 hs5 c4'
    go_wp2_with fail
    exact bodyPost_ret (results_one rfl Tryz.underlying71 rfl _ _ N _ (HSp.out.trans rfl) HW5.out rfl) rfl ⟨rfl, HB5.out⟩
  · have hd : decide ((n : Int) ≤ p) = true := decide_eq_true (by omega)
    have hd2 : decide (n ≤ p) = true := decide_eq_true (by omega)
    have HRe : Hid (tkC R = [.int .i64 0, .string ⟨#[]⟩, .int .i64 0]) := Lib.hid (by
      rw [HR.out]
      unfold restTk
      rw [← Hp.out, List.getElem?_eq_none (by rw [← Hn.out]; omega)]
      rfl)
    obtain ⟨V, HV⟩ : ∃ V, Hid (V = W.alloc (.cells #[.int .i64 0, .string ⟨#[]⟩, .int .i64 0] 71)) := ⟨_, Lib.hid rfl⟩
    have HWV : Hid (Whole V N 71 #[.int .i64 0, .string ⟨#[]⟩, .int .i64 0]) := Lib.hid (by rw [HV.out, HN.out]; exact Whole.new _ _ _)
    have hBV : Below W.heap.size W V := by rw [HV.out]; exact (Below.refl _ _).alloc (Nat.le_refl _) _
    have HBV := Lib.hid hBV
    have c4' : V.cell? ⟨g4, 0, none⟩ = some (.slice ao n cap) := (cellB hBV h4).trans c4
    clear hBV c4
    go_enter Tryz.func41, Tryz.ntmps41
    go_wp2_with (first
      | (with_reducible show wpList _ _ _ (Oper.mk _ (Op.load 66 _) _ _ _ _ :: _) _ _; refine Hid.out ?_))
    refine Lib.hid ?_
    rw [← HV.out, ← HN.out]
    go_wp2_with (first
      | (with_reducible show wpList _ _ _ (Oper.mk _ (Op.store 71 _ _) _ _ _ _ :: _) _ _; refine Hid.out ?_))
    refine Lib.hid ?_
    refine wpList_store_whole rfl _ _ _ rfl N _ _ #[.int .i64 0, .string ⟨#[]⟩, .int .i64 0] rfl rfl HWV.out (HSp.out.trans rfl) rfl (by simp [Value.oneCell']) ?_
    intro w5 hw5 hg5 hs5
    have HW5 : Hid (Whole w5 N 71 (tkC R).toArray) := Lib.hid (by rw [HRe.out]; exact hw5)
    have HB5 : Hid (Below W.heap.size W w5) := Lib.hid (HBV.out.grown hg5 HBV.out.size (fun k e => by cases e; rw [HN.out]; exact Nat.le_refl _))
    clear hw5 hg5 hs5 c4'
    go_wp2_with fail
    exact bodyPost_ret (results_one rfl Tryz.underlying71 rfl _ _ N _ (HSp.out.trans rfl) HW5.out rfl) rfl ⟨rfl, HB5.out⟩
end Go.Proofs.YtfkejnnbfneieaaGreatDoor

/- event.Parse. -/
namespace Go.Proofs.YtfkejnnbfneieaaGreatDoor
open Go.RowKit Go.Sort
open Evt

namespace Evt
theorem parse_long {s : List UInt8} (h : 1000 < s.length) : parseE s = none := by
  cases hq : parseE s with
  | none => rfl
  | some x =>
    obtain ⟨h1, h2⟩ := parse_sound hq
    have := textE_len h1
    rw [h2] at this
    omega
def evOf (o : Option Ev) : Ev := o.getD zero
def erOf (o : Option Ev) : Int := if o.isSome then 0 else 8
theorem ktN_bound {x : KT} (h : okT x) : -1 ≤ ktN x ∧ ktN x ≤ 1000000000000000000 := by
  unfold ktN
  split
  · rename_i h2
    obtain ⟨h7, n, hn⟩ := h h2
    rw [hn]
    have := (Lib.atoi_bound hn (by omega)).2
    simp only [Option.getD_some]
    omega
  · omega
theorem ktNum_bound {l : List KT} (h : ∀ x ∈ l, okT x) (i : Nat) : -1 ≤ ktNum l i ∧ ktNum l i ≤ 1000000000000000000 := by
  unfold ktNum
  cases hq : l[i]? with
  | none => exact ⟨Int.le_refl _, by decide⟩
  | some x => exact ktN_bound (h x (List.mem_of_getElem? hq))
theorem i64_num {z : Int} (h : -1 ≤ z ∧ z ≤ 1000000000000000000) : I64 z := by
  unfold I64
  have h1 : IntKind.i64.min = -9223372036854775808 := by decide
  have h2 : IntKind.i64.max = 9223372036854775807 := by decide
  simp [Lit.wf, h1, h2]
  omega
theorem st_text {l : List KT} {n : Nat} (h : ∀ x ∈ l, x.2.length ≤ n) (hn : n ≤ 9223372036854775807) (i : Nat) : St (strOf (ktText l i)) := by
  unfold St strOf ktText
  cases hq : l[i]? with
  | none => simp [ByteArray.size]
  | some x =>
    have := h x (List.mem_of_getElem? hq)
    simp [ByteArray.size]
    omega
theorem sz_cand {l : List KT} {n : Nat} (h : ∀ x ∈ l, okT x) (h2 : ∀ x ∈ l, x.2.length ≤ n) (hn : n ≤ 9223372036854775807) : Sz (candT l) := by
  have hz := fun i => i64_num (ktNum_bound h i)
  have hs := fun i => st_text h2 hn i
  have ho : I64 (opW (ktText l 0)) := i64_num (by have := opW_bound (ktText l 0); omega)
  unfold candT
  dsimp only
  split
  · exact ⟨ho, hz 1, hs 2, hs 3, st_emp, st_emp, st_emp, st_emp, i64_zero, i64_zero, i64_zero, i64_zero, i64_zero, i64_zero⟩
  · split
    · exact ⟨ho, hz 1, hs 2, st_emp, hs 3, hs 4, st_emp, st_emp, i64_zero, i64_zero, i64_zero, i64_zero, i64_zero, i64_zero⟩
    · split
      · exact ⟨ho, hz 1, hs 2, st_emp, st_emp, st_emp, st_emp, st_emp, hz 3, hz 4, hz 5, hz 6, hz 7, hz 8⟩
      · split
        · exact ⟨ho, hz 1, hs 2, st_emp, st_emp, st_emp, hs 3, hs 4, i64_zero, i64_zero, i64_zero, i64_zero, i64_zero, i64_zero⟩
        · exact ⟨ho, hz 1, hs 2, st_emp, st_emp, st_emp, st_emp, st_emp, i64_zero, i64_zero, i64_zero, i64_zero, i64_zero, i64_zero⟩
end Evt
section
variable (d : Option Tmp) (t : TypeId) (pos : String) (af : Array Edge) (g : Option (Nat × Bool)) (A : Act) (w : World)
theorem run_allocEv : (execOp A.eval ⟨d, .alloc 50, t, pos, af, g⟩).run Tryz.prog w = .ok (.value (.pointer (some ⟨w.heap.size, 0, none⟩))) (w.alloc (.cells (evC zero).toArray 50)) := by
  have e : (evC zero).toArray = #[.int .i64 0, .int .i64 0, .string ⟨#[]⟩, .string ⟨#[]⟩, .string ⟨#[]⟩, .string ⟨#[]⟩, .string ⟨#[]⟩, .string ⟨#[]⟩, .int .i64 0, .int .i64 0, .int .i64 0, .int .i64 0, .int .i64 0, .int .i64 0] := rfl
  rw [e]
  simp [go_sem]
theorem run_buildEv (x y z : Tmp) (op dy : Int) (p : ByteArray) (hx : A.eval (.tmp x) = .int .i64 op) (hy : A.eval (.tmp y) = .int .i64 dy) (hz : A.eval (.tmp z) = .string p) :
    (execOp A.eval ⟨d, .build 50 #[(0, .tmp x), (1, .tmp y), (2, .tmp z)], t, pos, af, g⟩).run Tryz.prog w = .ok (.value (.agg (evC ⟨op, dy, p, emp, emp, emp, emp, emp, 0, 0, 0, 0, 0, 0⟩).toArray)) w := by
  have e : (evC ⟨op, dy, p, emp, emp, emp, emp, emp, 0, 0, 0, 0, 0, 0⟩).toArray = #[.int .i64 op, .int .i64 dy, .string p, .string ⟨#[]⟩, .string ⟨#[]⟩, .string ⟨#[]⟩, .string ⟨#[]⟩, .string ⟨#[]⟩, .int .i64 0, .int .i64 0, .int .i64 0, .int .i64 0, .int .i64 0, .int .i64 0] := rfl
  rw [e]
  unfold execOp
  simp only [hx, hy, hz, List.map_toArray, List.map_cons, List.map_nil]
  go_simp
end
theorem field_tok (K A : Int) (T : ByteArray) (w : World) : (Instr.field 71 (.agg #[.int .i64 K, .string T, .int .i64 A]) 1).run Tryz.prog w = .ok (.string T) w := by kernel_rfl
def bnd (l : List KT) (k : Nat) : List Value := [0, 1, 2, 3, 4, 5].map fun j => Value.int .i64 (if j < k then ktNum l (3 + j) else 0)
theorem bnd_set (l : List KT) {k : Nat} (hk : k < 6) : (bnd l k).set k (.int .i64 (ktNum l (3 + k))) = bnd l (k + 1) := by
  have : k = 0 ∨ k = 1 ∨ k = 2 ∨ k = 3 ∨ k = 4 ∨ k = 5 := by omega
  rcases this with rfl | rfl | rfl | rfl | rfl | rfl <;> rfl
theorem bnd_at (l : List KT) {k : Nat} (hk : k < 6) : (bnd l k)[k]? = some (.int .i64 0) := by
  have : k = 0 ∨ k = 1 ∨ k = 2 ∨ k = 3 ∨ k = 4 ∨ k = 5 := by omega
  rcases this with rfl | rfl | rfl | rfl | rfl | rfl <;> rfl
def Run6 (W w3 _wz : World) (N g7 gA : Nat) (l : List KT) (cs : List Value) (k : Nat) (w : World) : Prop :=
  Below w3.heap.size w3 w ∧ Below W.heap.size W w ∧ Whole w g7 50 cs.toArray ∧ Whole w N 50 (evC zero).toArray ∧ Whole w gA 74 (bnd l k).toArray
theorem rest_ok {l : List Lex.Tk} (h : ∀ x ∈ l, okT (x.1, x.2.1)) (hs : ∀ x ∈ l, x.2.1.length ≤ 1407374883512) (i : Nat) :
    okT ((restTk l i).1, (strOf (ktText (ktOf l) (3 + i))).data.toList) ∧ (strOf (ktText (ktOf l) (3 + i))).size ≤ 281474976710656 ∧ ktN ((restTk l i).1, (strOf (ktText (ktOf l) (3 + i))).data.toList) = ktNum (ktOf l) (3 + i) := by
  unfold restTk strOf ktText ktNum ktOf
  rw [List.getElem?_map]
  cases hq : l[3 + i]? with
  | none => exact ⟨fun h => absurd (show (0 : Nat) = 2 from h) (by decide), by decide, rfl⟩
  | some x => exact ⟨h x (List.mem_of_getElem? hq), Nat.le_trans (hs x (List.mem_of_getElem? hq)) (by omega), rfl⟩
theorem Run6.below {W w3 wz w w' : World} {N g7 gA : Nat} {l : List KT} {cs : List Value} {k : Nat} (h : Run6 W w3 wz N g7 gA l cs k w) (hb : Below w.heap.size w w') : Run6 W w3 wz N g7 gA l cs k w' :=
  ⟨below_step h.1 hb, below_step h.2.1 hb, whole_belowM h.2.2.1 hb, whole_belowM h.2.2.2.1 hb, whole_belowM h.2.2.2.2 hb⟩
theorem Run6.set {W w3 wz w : World} {N g7 gA : Nat} {l : List KT} {cs : List Value} {k : Nat} (h : Run6 W w3 wz N g7 gA l cs k w) (hk : k < 6) (hA : g7 < gA) (hN : N < g7) (h3 : w3.heap.size ≤ gA) (hW : W.heap.size ≤ gA) :
    Run6 W w3 wz N g7 gA l cs (k + 1) (w.setCell ⟨gA, k, none⟩ (.int .i64 (ktNum l (3 + k)))) := by
  have hg : w.grownBy (w.setCell ⟨gA, k, none⟩ (.int .i64 (ktNum l (3 + k)))) (some gA) := ⟨rfl, rfl, rfl, by simp, fun j _ hj => Below.heap_setCell _ _ _ _ (fun e => hj (by rw [e]))⟩
  exact ⟨h.1.grown hg h.1.size (fun y e => by cases e; exact h3), h.2.1.grown hg h.2.1.size (fun y e => by cases e; exact hW), whole_grownM h.2.2.1 hg (fun e => by cases e; omega), whole_grownM h.2.2.2.1 hg (fun e => by cases e; omega), whole_setM h.2.2.2.2 k _ (bnd_set l hk)⟩
def ParsePost (s : ByteArray) (W : World) (e : Ending) (w' : World) : Prop := e = .returned (.tuple #[.agg (evC (evOf (parseE s.data.toList))).toArray, .int .i64 (erOf (parseE s.data.toList))]) ∧ Below W.heap.size W w'

def ep4V (_g4 tb n cap : Nat) (x0 x1 x2 : Lex.Tk) (e0 : Ev) : Nat → Value → Prop
  | 0, v => v = .slice (some ⟨tb, 0, none⟩) n cap
  | 1, v => v = .pointer (some ⟨tb, 0 + 0 * 3, none⟩)
  | 2, v => v = .pointer (some ⟨tb, 0 + 0 * 3 + 1, none⟩)
  | 3, v => v = .string ⟨x0.2.1.toArray⟩
  | 4, v => v = .int .i64 (opW x0.2.1)
  | 5, v => v = .slice (some ⟨tb, 0, none⟩) n cap
  | 6, v => v = .pointer (some ⟨tb, 0 + 1 * 3, none⟩)
  | 7, v => v = .agg (tkC x1).toArray
  | 8, v => v = .int .i64 (ktN (x1.1, x1.2.1))
  | 9, v => v = .slice (some ⟨tb, 0, none⟩) n cap
  | 10, v => v = .pointer (some ⟨tb, 0 + 2 * 3, none⟩)
  | 11, v => v = .pointer (some ⟨tb, 0 + 2 * 3 + 1, none⟩)
  | 12, v => v = .string ⟨x2.2.1.toArray⟩
  | 13, v => v = .agg (evC e0).toArray
  | _, _ => True
set_option maxRecDepth 100000 in
set_option maxHeartbeats 16000000 in
theorem parse_any (s : ByteArray) (hs : s.size ≤ 1407374883512) (W : World) (hT : WTab W) (ht : Tab W) (hE : Errs W) :
    Calls Tryz.prog 26 #[.string s] W (ParsePost s W) := by
  obtain ⟨N, HN⟩ : ∃ N, Hid (N = W.heap.size) := ⟨_, Lib.hid rfl⟩
  obtain ⟨V, HV⟩ : ∃ V, Hid (V = W.alloc (.cells (evC zero).toArray 50)) := ⟨_, Lib.hid rfl⟩
  have HWV : Hid (Whole V N 50 (evC zero).toArray) := Lib.hid (by rw [HV.out, HN.out]; exact Whole.new _ _ _)
  have HBV : Hid (Below W.heap.size W V) := Lib.hid (by rw [HV.out]; exact (Below.refl _ _).alloc (Nat.le_refl _) _)
  have HSp := Lib.hid ev_size
  have HOz : Hid ((evC zero).toArray.all (·.oneCell') = true) := Lib.hid (evC_one _)
  have HT := Lib.hid (And.intro hT (And.intro ht hE))
  have HLx := Lib.hid (lex_any s hs V)
  have hmf : ∀ (fn : Fn) (first cap : Array Value) (w : World), (Instr.makeFunc fn first cap).run Tryz.prog w = .ok (.func fn first cap) w := fun _ _ _ _ => rfl
  have Hmf := Lib.hid hmf
  clear hT ht hE hmf
  have HZc : Hid ((#[.int .i64 0, .int .i64 0, .string ⟨#[]⟩, .string ⟨#[]⟩, .string ⟨#[]⟩, .string ⟨#[]⟩, .string ⟨#[]⟩, .string ⟨#[]⟩, .int .i64 0, .int .i64 0, .int .i64 0, .int .i64 0, .int .i64 0, .int .i64 0] : Array Value) = (evC zero).toArray) := Lib.hid rfl
  go_enter Tryz.func26, Tryz.ntmps26
  go_wp2_with fail
  rw [HZc.out, ← HV.out, ← HN.out]
  refine HLx.out.mono ?_
  rintro e w1 ⟨hb1, hcase⟩
  have HB1 := Lib.hid (below_step HBV.out hb1)
  have HW1 := Lib.hid (whole_belowM HWV.out hb1)
  by_cases hgood : s.size ≤ 20000 ∧ ∃ l, Lex.lex s.data.toList = .ok l ∧ 3 ≤ l.length
  case neg =>
    have HNone : Hid (∀ w, Below W.heap.size W w → ParsePost s W (.returned (.tuple #[.agg (evC zero).toArray, .int .i64 8])) w) := Lib.hid (fun w hb => by
      have hp : parseE s.data.toList = none := by
        by_cases h2 : s.size ≤ 20000
        · unfold parseE
          cases hq : Lex.lex s.data.toList with
          | error y => rfl
          | ok l =>
            dsimp only
            rw [if_neg (fun h => hgood ⟨h2, l, hq, h.1⟩)]
        · exact parse_long (show 1000 < s.size from by omega)
      unfold ParsePost
      rw [hp]
      exact ⟨rfl, hb⟩)
    rcases hcase with ⟨h2, rfl⟩ | ⟨h2, x, q, hx, hx0, rfl⟩ | ⟨h2, l, ao, cap, hx, rfl, hrow⟩
    · obtain ⟨w2, Hw2⟩ : ∃ x, Hid (x = w1.alloc (.cells #[.slice none 0 0] 66)) := ⟨_, Lib.hid rfl⟩
      have HBn : Hid (Below W.heap.size W w2) := Lib.hid (by rw [Hw2.out]; exact below_alloc HB1.out _)
      have HWn : Hid (Whole w2 N 50 (evC zero).toArray) := Lib.hid (by rw [Hw2.out]; exact whole_belowM HW1.out ((Below.refl _ _).alloc (Nat.le_refl _) _))
      go_wp2_with (first
        | (with_reducible show wpList _ _ _ (Oper.mk _ (Op.store 50 _ _) _ _ _ _ :: _) _ _; refine Hid.out ?_))
      refine Lib.hid ?_
      rw [← Hw2.out]
      refine wpList_store_whole rfl _ _ _ rfl N _ _ (evC zero).toArray rfl rfl HWn.out (HSp.out.trans rfl) rfl HOz.out ?_
      intro wz hwz hgz hsz
      have HWz := Lib.hid hwz
      have HBz : Hid (Below W.heap.size W wz) := Lib.hid (HBn.out.grown hgz HBn.out.size (fun k e => by cases e; rw [HN.out]; exact Nat.le_refl _))
      clear hwz hgz hsz
      go_wp2_with fail
      exact bodyPost_ret (results_pair (k := 2) (j := 3) rfl Tryz.underlying50 rfl _ _ N _ (HSp.out.trans rfl) HWz.out rfl) rfl (HNone.out wz HBz.out)
    · have hx1 : ((x : Int) == 0) = false := by simp; omega
      have hx2 : ((x : Int) != 0) = true := by simp; omega
      clear hx hx0 h2
      obtain ⟨w2, Hw2⟩ : ∃ x, Hid (x = w1.alloc (.cells #[.slice none 0 0] 66)) := ⟨_, Lib.hid rfl⟩
      have HBn : Hid (Below W.heap.size W w2) := Lib.hid (by rw [Hw2.out]; exact below_alloc HB1.out _)
      have HWn : Hid (Whole w2 N 50 (evC zero).toArray) := Lib.hid (by rw [Hw2.out]; exact whole_belowM HW1.out ((Below.refl _ _).alloc (Nat.le_refl _) _))
      go_wp2_with (first
        | (with_reducible show wpList _ _ _ (Oper.mk _ (Op.store 50 _ _) _ _ _ _ :: _) _ _; refine Hid.out ?_))
      refine Lib.hid ?_
      rw [← Hw2.out]
      refine wpList_store_whole rfl _ _ _ rfl N _ _ (evC zero).toArray rfl rfl HWn.out (HSp.out.trans rfl) rfl HOz.out ?_
      intro wz hwz hgz hsz
      have HWz := Lib.hid hwz
      have HBz : Hid (Below W.heap.size W wz) := Lib.hid (HBn.out.grown hgz HBn.out.size (fun k e => by cases e; rw [HN.out]; exact Nat.le_refl _))
      clear hwz hgz hsz
      go_wp2_with fail
      exact bodyPost_ret (results_pair (k := 2) (j := 3) rfl Tryz.underlying50 rfl _ _ N _ (HSp.out.trans rfl) HWz.out rfl) rfl (HNone.out wz HBz.out)
    · have hl3 : l.length < 3 := by
        rcases Nat.lt_or_ge l.length 3 with h | h
        · exact h
        · exact absurd ⟨h2, l, hx, h⟩ hgood
      obtain ⟨n, Hn⟩ : ∃ n, Hid (n = l.length) := ⟨_, Lib.hid rfl⟩
      rw [← Hn.out] at hl3 ⊢
      have hd : decide ((n : Int) < 3) = true := decide_eq_true (by omega)
      clear hx hrow h2
      obtain ⟨w2, Hw2⟩ : ∃ x, Hid (x = w1.alloc (.cells #[.slice ao n cap] 66)) := ⟨_, Lib.hid rfl⟩
      have HBn : Hid (Below W.heap.size W w2) := Lib.hid (by rw [Hw2.out]; exact below_alloc HB1.out _)
      have HWn : Hid (Whole w2 N 50 (evC zero).toArray) := Lib.hid (by rw [Hw2.out]; exact whole_belowM HW1.out ((Below.refl _ _).alloc (Nat.le_refl _) _))
      go_wp2_with (first
        | (with_reducible show wpList _ _ _ (Oper.mk _ (Op.store 50 _ _) _ _ _ _ :: _) _ _; refine Hid.out ?_))
      refine Lib.hid ?_
      rw [← Hw2.out]
      refine wpList_store_whole rfl _ _ _ rfl N _ _ (evC zero).toArray rfl rfl HWn.out (HSp.out.trans rfl) rfl HOz.out ?_
      intro wz hwz hgz hsz
      have HWz := Lib.hid hwz
      have HBz : Hid (Below W.heap.size W wz) := Lib.hid (HBn.out.grown hgz HBn.out.size (fun k e => by cases e; rw [HN.out]; exact Nat.le_refl _))
      clear hwz hgz hsz
      go_wp2_with fail
      exact bodyPost_ret (results_pair (k := 2) (j := 3) rfl Tryz.underlying50 rfl _ _ N _ (HSp.out.trans rfl) HWz.out rfl) rfl (HNone.out wz HBz.out)
  obtain ⟨h2, l, hx, hl3⟩ := hgood
  rcases hcase with ⟨h9, -⟩ | ⟨-, x, q, hx', -⟩ | ⟨-, l', ao, cap, hx', rfl, hrow⟩
  · exact absurd h9 (by omega)
  · rw [hx] at hx'; cases hx'
  obtain rfl : l = l' := by rw [hx] at hx'; cases hx'; rfl
  clear hx'
  have hrow : Toks w1 V.heap.size ao cap l := hrow
  have hIs := toks_isL hrow
  obtain ⟨tb, rfl, -, -⟩ := toks_at hrow (j := 0) (k := l[0].1) (t := l[0].2.1) (a := l[0].2.2) (by rw [List.getElem?_eq_getElem (by omega)])
  have hfew := (Lex.lex_few hx).1
  have Hok := Lib.hid (lex_okT hx)
  have HLxx := Lib.hid hx
  obtain ⟨n, Hn⟩ : ∃ n, Hid (n = l.length) := ⟨_, Lib.hid rfl⟩
  have HI := Lib.hid hIs
  have hn3 : 3 ≤ n := by rw [Hn.out]; exact hl3
  have HN20 : Hid (n ≤ 20000) := Lib.hid (by have e : s.data.toList.length = s.size := rfl; rw [Hn.out]; omega)
  rw [← Hn.out]
  have hd : decide ((n : Int) < 3) = false := decide_eq_false (by omega)
  obtain ⟨g4, Hg4⟩ : ∃ x, Hid (x = w1.heap.size) := ⟨_, Lib.hid rfl⟩
  obtain ⟨w3, Hw3⟩ : ∃ x, Hid (x = w1.alloc (.cells #[.slice (some ⟨tb, 0, none⟩) n cap] 66)) := ⟨_, Lib.hid rfl⟩
  have hb13 : Below w1.heap.size w1 w3 := by rw [Hw3.out]; exact (Below.refl _ _).alloc (Nat.le_refl _) _
  have HB3 : Hid (Below W.heap.size W w3) := Lib.hid (below_step HB1.out hb13)
  have HW3 := Lib.hid (whole_belowM HW1.out hb13)
  have HG4 : Hid (Whole w3 g4 66 #[.slice (some ⟨tb, 0, none⟩) n cap]) := Lib.hid (by rw [Hw3.out, Hg4.out]; exact Whole.new _ _ _)
  have HI3 := Lib.hid (HI.out.below stTk hb13)
  have HC4 := Lib.hid (fun w (hw : Below w3.heap.size w3 w) => (whole_belowM HG4.out hw).cell 0)
  clear hb13 hIs hrow hx h2
  obtain ⟨x0, Hx0⟩ : ∃ x, Hid (x = l[0]) := ⟨_, Lib.hid rfl⟩
  obtain ⟨x1, Hx1⟩ : ∃ x, Hid (x = l[1]) := ⟨_, Lib.hid rfl⟩
  obtain ⟨x2, Hx2⟩ : ∃ x, Hid (x = l[2]) := ⟨_, Lib.hid rfl⟩
  have HAt : Hid (∀ k (hk : k < l.length) w, Below w3.heap.size w3 w → w.rangeAt tb (0 + k * 3) (tkC l[k])) := Lib.hid (fun k hk w hw => by
    obtain ⟨bk, off, cs, e, hbk, hr, rfl⟩ := (HI3.out.below stTk hw).at hk
    injection e with e
    injection e with e1 e2
    subst e1 e2
    exact hr)
  have HT0 := Lib.hid (fun w (hw : Below w3.heap.size w3 w) => (by have h := HAt.out 0 (by omega) w hw 1 _ rfl; rw [← Hx0.out] at h; exact h : w.cell? ⟨tb, 0 + 0 * 3 + 1, none⟩ = some (.string ⟨x0.2.1.toArray⟩)))
  have HT1 := Lib.hid (fun w (hw : Below w3.heap.size w3 w) => (by have h := HAt.out 1 (by omega) w hw; rw [← Hx1.out] at h; exact h : w.rangeAt tb (0 + 1 * 3) (tkC x1)))
  have HT2 := Lib.hid (fun w (hw : Below w3.heap.size w3 w) => (by have h := HAt.out 2 (by omega) w hw 1 _ rfl; rw [← Hx2.out] at h; exact h : w.cell? ⟨tb, 0 + 2 * 3 + 1, none⟩ = some (.string ⟨x2.2.1.toArray⟩)))
  have HTw := Lib.hid (HT.out.1.below HB3.out)
  have HEr := Lib.hid (HT.out.2.2.below HB3.out)
  have HSt : Hid (∀ x ∈ l, x.2.1.length ≤ 1407374883512) := Lib.hid (fun x hx => Nat.le_trans (Lex.lex_text HLxx.out x hx) hs)
  have HOk1 : Hid (okT (x1.1, (⟨x1.2.1.toArray⟩ : ByteArray).data.toList) ∧ (⟨x1.2.1.toArray⟩ : ByteArray).size ≤ 281474976710656) := Lib.hid (by
    have hm : x1 ∈ l := by rw [Hx1.out]; exact List.getElem_mem _
    exact ⟨Hok.out x1 hm, Nat.le_trans (HSt.out x1 hm) (by omega)⟩)
  obtain ⟨e0, He0⟩ : ∃ e, Hid (e = (⟨opW x0.2.1, ktN (x1.1, x1.2.1), ⟨x2.2.1.toArray⟩, emp, emp, emp, emp, emp, 0, 0, 0, 0, 0, 0⟩ : Ev)) := ⟨_, Lib.hid rfl⟩
  go_wp2_with fail
  rw [← Hw3.out, ← Hg4.out]
  apply wp_region_entE 117 (nsK 14 15) (nsP w3 50 (evC zero).toArray (evC e0).toArray 14) (ep4V g4 tb n cap x0 x1 x2 e0) nsP_cg (by kernel_rfl) (by kernel_rfl) rfl nsP_zero
  · intro i o ho e w A' hT hei hwn hsee haway
    have q4 : A'.eval (.tmp 4) = .pointer (some ⟨g4, 0, none⟩) := (haway 4 (by kernel_rfl)).trans rfl
    have HLw : Below w3.heap.size w3 w := hT.fact 0 rfl (by simp) (by simp) rfl
    have hi : i < 16 := by have := (List.getElem?_eq_some_iff.1 ho).1; simpa using this
    have hi : i = 0 ∨ i = 1 ∨ i = 2 ∨ i = 3 ∨ i = 4 ∨ i = 5 ∨ i = 6 ∨ i = 7 ∨ i = 8 ∨ i = 9 ∨ i = 10 ∨ i = 11 ∨ i = 12 ∨ i = 13 ∨ i = 14 ∨ i = 15 := by omega
    rcases hi with rfl | rfl | rfl | rfl | rfl | rfl | rfl | rfl | rfl | rfl | rfl | rfl | rfl | rfl | rfl | rfl
    all_goals
      simp only [List.getElem?_cons_succ, List.getElem?_cons_zero, Option.some.injEq] at ho
      subst ho
    · exact wp_of_runL (rLoad1 _ _ _ _ _ A' w 66 (.tmp 4) _ _ _ Tryz.underlying66 rfl (HC4.out w HLw) q4) ⟨_, rfl, rfl, LeavesE.plain nsP_below (Below.refl _ _) (by decide)⟩
    · have q27 : A'.eval (.tmp 27) = .slice (some ⟨tb, 0, none⟩) n cap := (hsee 27 0 (by kernel_rfl) (by kernel_rfl)).2 (want_free (by kernel_rfl))
      exact wp_of_runL (rIndex _ _ _ _ _ A' w 66 71 3 (.tmp 27) (.const (.int .i64 0)) tb 0 n cap 0 0 Tryz.underlying66 (by kernel_rfl) (by omega) (by omega) q27 rfl) ⟨_, rfl, rfl, LeavesE.plain nsP_below (Below.refl _ _) (by decide)⟩
    · have q28 : A'.eval (.tmp 28) = .pointer (some ⟨tb, 0 + 0 * 3, none⟩) := (hsee 28 1 (by kernel_rfl) (by kernel_rfl)).2 (want_free (by kernel_rfl))
      exact wp_of_runL (rField _ _ _ _ _ A' w 71 (.tmp 28) 1 tb (0 + 0 * 3) (0 + 0 * 3 + 1) _ _ Tryz.underlying71 rfl (by kernel_rfl) rfl (by kernel_rfl) q28) ⟨_, rfl, rfl, LeavesE.plain nsP_below (Below.refl _ _) (by decide)⟩
    · have q29 : A'.eval (.tmp 29) = .pointer (some ⟨tb, 0 + 0 * 3 + 1, none⟩) := (hsee 29 2 (by kernel_rfl) (by kernel_rfl)).2 (want_free (by kernel_rfl))
      exact wp_of_runL (rLoad1 _ _ _ _ _ A' w 9 (.tmp 29) _ _ _ Tryz.underlying9 rfl (HT0.out w HLw) q29) ⟨_, rfl, rfl, LeavesE.plain nsP_below (Below.refl _ _) (by decide)⟩
    · have q30 : A'.eval (.tmp 30) = .string ⟨x0.2.1.toArray⟩ := (hsee 30 3 (by kernel_rfl) (by kernel_rfl)).2 (want_free (by kernel_rfl))
      refine wp_of_callL _ _ _ _ _ _ _ 39 _ [.tmp 30] [.string ⟨x0.2.1.toArray⟩] (by simp [q30]) (by kernel_rfl) ?_
      refine (operation_any ⟨x0.2.1.toArray⟩ w (HTw.out.below HLw)).mono ?_
      rintro e' w2 ⟨rfl, rfl⟩
      exact ⟨_, rfl, _, rfl, rfl, LeavesE.plain nsP_below (Below.refl _ _) (by decide)⟩
    · exact wp_of_runL (rLoad1 _ _ _ _ _ A' w 66 (.tmp 4) _ _ _ Tryz.underlying66 rfl (HC4.out w HLw) q4) ⟨_, rfl, rfl, LeavesE.plain nsP_below (Below.refl _ _) (by decide)⟩
    · have q32 : A'.eval (.tmp 32) = .slice (some ⟨tb, 0, none⟩) n cap := (hsee 32 5 (by kernel_rfl) (by kernel_rfl)).2 (want_free (by kernel_rfl))
      exact wp_of_runL (rIndex _ _ _ _ _ A' w 66 71 3 (.tmp 32) (.const (.int .i64 1)) tb 0 n cap 1 1 Tryz.underlying66 (by kernel_rfl) (by omega) (by omega) q32 rfl) ⟨_, rfl, rfl, LeavesE.plain nsP_below (Below.refl _ _) (by decide)⟩
    · have q33 : A'.eval (.tmp 33) = .pointer (some ⟨tb, 0 + 1 * 3, none⟩) := (hsee 33 6 (by kernel_rfl) (by kernel_rfl)).2 (want_free (by kernel_rfl))
      exact wp_of_runL (rLoad _ _ _ _ _ A' w 71 (.tmp 33) tb _ (tkC x1) _ (HT1.out w HLw) Tryz.underlying71 rfl (by kernel_rfl) q33) ⟨_, rfl, rfl, LeavesE.plain nsP_below (Below.refl _ _) (by decide)⟩
    · have q34 : A'.eval (.tmp 34) = .agg (tkC x1).toArray := (hsee 34 7 (by kernel_rfl) (by kernel_rfl)).2 (want_free (by kernel_rfl))
      refine wp_of_callL _ _ _ _ _ _ _ 40 _ [.tmp 34] [.agg (tkC x1).toArray] (by simp [q34]) (by kernel_rfl) ?_
      refine (number_any x1.1 ⟨x1.2.1.toArray⟩ x1.2.2 HOk1.out.1 HOk1.out.2 w (HEr.out.below HLw)).mono ?_
      rintro e' w2 ⟨rfl, hb2⟩
      exact ⟨_, rfl, _, rfl, rfl, LeavesE.plain nsP_below hb2 (by decide)⟩
    · exact wp_of_runL (rLoad1 _ _ _ _ _ A' w 66 (.tmp 4) _ _ _ Tryz.underlying66 rfl (HC4.out w HLw) q4) ⟨_, rfl, rfl, LeavesE.plain nsP_below (Below.refl _ _) (by decide)⟩
    · have q36 : A'.eval (.tmp 36) = .slice (some ⟨tb, 0, none⟩) n cap := (hsee 36 9 (by kernel_rfl) (by kernel_rfl)).2 (want_free (by kernel_rfl))
      exact wp_of_runL (rIndex _ _ _ _ _ A' w 66 71 3 (.tmp 36) (.const (.int .i64 2)) tb 0 n cap 2 2 Tryz.underlying66 (by kernel_rfl) (by omega) (by omega) q36 rfl) ⟨_, rfl, rfl, LeavesE.plain nsP_below (Below.refl _ _) (by decide)⟩
    · have q37 : A'.eval (.tmp 37) = .pointer (some ⟨tb, 0 + 2 * 3, none⟩) := (hsee 37 10 (by kernel_rfl) (by kernel_rfl)).2 (want_free (by kernel_rfl))
      exact wp_of_runL (rField _ _ _ _ _ A' w 71 (.tmp 37) 1 tb (0 + 2 * 3) (0 + 2 * 3 + 1) _ _ Tryz.underlying71 rfl (by kernel_rfl) rfl (by kernel_rfl) q37) ⟨_, rfl, rfl, LeavesE.plain nsP_below (Below.refl _ _) (by decide)⟩
    · have q38 : A'.eval (.tmp 38) = .pointer (some ⟨tb, 0 + 2 * 3 + 1, none⟩) := (hsee 38 11 (by kernel_rfl) (by kernel_rfl)).2 (want_free (by kernel_rfl))
      exact wp_of_runL (rLoad1 _ _ _ _ _ A' w 9 (.tmp 38) _ _ _ Tryz.underlying9 rfl (HT2.out w HLw) q38) ⟨_, rfl, rfl, LeavesE.plain nsP_below (Below.refl _ _) (by decide)⟩
    · have q31 : A'.eval (.tmp 31) = .int .i64 (opW x0.2.1) := (hsee 31 4 (by kernel_rfl) (by kernel_rfl)).2 (want_free (by kernel_rfl))
      have q35 : A'.eval (.tmp 35) = .int .i64 (ktN (x1.1, x1.2.1)) := (hsee 35 8 (by kernel_rfl) (by kernel_rfl)).2 (want_free (by kernel_rfl))
      have q39 : A'.eval (.tmp 39) = .string ⟨x2.2.1.toArray⟩ := (hsee 39 12 (by kernel_rfl) (by kernel_rfl)).2 (want_free (by kernel_rfl))
      exact wp_of_runL (run_buildEv _ _ _ _ _ A' w 31 35 39 _ _ _ q31 q35 q39) ⟨_, rfl, by rw [He0.out]; rfl, LeavesE.plain nsP_below (Below.refl _ _) (by decide)⟩
    · exact wp_of_runL (run_allocEv _ _ _ _ _ A' w) ⟨_, rfl, trivial, LeavesE.below nsP_below ((Below.refl _ _).alloc (Nat.le_refl _) _) (ns_new_alloc (by decide) HLw (hT.none_of hei (by kernel_rfl)))⟩
    · have f14 : e 14 = some (A'.eval (.tmp 7)) := (hsee 7 14 (by kernel_rfl) (by kernel_rfl)).1
      have q40 : A'.eval (.tmp 40) = .agg (evC e0).toArray := (hsee 40 13 (by kernel_rfl) (by kernel_rfl)).2 (want_free (by kernel_rfl))
      obtain ⟨g, h3, h4, h5⟩ := hT.fact 1 rfl (by simp [hei]) (by simp [f14]) rfl
      rw [valOf_some f14] at h3
      obtain ⟨w', hr, hz, hg, hw'⟩ := rStore (P := Tryz.prog) _ _ _ _ _ A' w 50 (.tmp 7) (.tmp 40) g _ _ (evC e0).toArray h3 q40 h5 (by kernel_rfl) rfl (by simp [evC, Value.oneCell'])
      exact wp_of_skipL hr ⟨_, rfl, trivial, ns_leaves_store (by decide) HLw f14 h3 h4 hg hw'⟩
  intro e wz hT hall
  obtain ⟨v0, e0⟩ := hall 0 (by decide)
  obtain ⟨v1, e1⟩ := hall 1 (by decide)
  obtain ⟨v2, e2⟩ := hall 2 (by decide)
  obtain ⟨v3, e3⟩ := hall 3 (by decide)
  obtain ⟨v4, e4⟩ := hall 4 (by decide)
  obtain ⟨v5, e5⟩ := hall 5 (by decide)
  obtain ⟨v6, e6⟩ := hall 6 (by decide)
  obtain ⟨v7, e7⟩ := hall 7 (by decide)
  obtain ⟨v8, e8⟩ := hall 8 (by decide)
  obtain ⟨v9, e9⟩ := hall 9 (by decide)
  obtain ⟨v10, e10⟩ := hall 10 (by decide)
  obtain ⟨v11, e11⟩ := hall 11 (by decide)
  obtain ⟨v12, e12⟩ := hall 12 (by decide)
  obtain ⟨v13, e13⟩ := hall 13 (by decide)
  obtain ⟨v14, e14⟩ := hall 14 (by decide)
  obtain ⟨v15, e15⟩ := hall 15 (by decide)
  have hF0 := hT.fact 0 rfl (by simp) (by simp) (by kernel_rfl)
  simp only [nsP] at hF0
  have hF2 := hT.fact 2 rfl (by simp) (by simp [e14, e15]) (by kernel_rfl)
  simp only [nsP, valOf_some e14] at hF2
  simp only [List.length_cons, List.length_nil, Nat.reduceAdd, fillTo, e0, e1, e2, e3, e4, e5, e6, e7, e8, e9, e10, e11, e12, e13, e14, e15, dstOf]
  clear e0 e1 e2 e3 e4 e5 e6 e7 e8 e9 e10 e11 e12 e13 e14 e15 hT hall
  have HF0 := Lib.hid hF0
  have HF2 := Lib.hid hF2
  clear hF0 hF2
  go_simp
  obtain ⟨g7, rfl, hg7, hW7⟩ := HF2.out
  have HW7 := Lib.hid hW7
  have HBz := Lib.hid (below_step HB3.out HF0.out)
  have HNz := Lib.hid (whole_belowM HW3.out HF0.out)
  have Hg7 := Lib.hid hg7
  clear hW7 hg7
  obtain ⟨op, Hop⟩ : ∃ z, Hid (z = opW x0.2.1) := ⟨_, Lib.hid rfl⟩
  obtain ⟨dy, Hdy⟩ : ∃ z, Hid (z = ktN (x1.1, x1.2.1)) := ⟨_, Lib.hid rfl⟩
  obtain ⟨pt, Hpt⟩ : ∃ z : ByteArray, Hid (z = ⟨x2.2.1.toArray⟩) := ⟨_, Lib.hid rfl⟩
  have He1 : Hid (e0 = (⟨op, dy, pt, emp, emp, emp, emp, emp, 0, 0, 0, 0, 0, 0⟩ : Ev)) := Lib.hid (by rw [He0.out, Hop.out, Hdy.out, Hpt.out])
  have hob : 0 ≤ op ∧ op ≤ 7 := by rw [Hop.out]; exact opW_bound _
  have HHC : Hid (opW (ktText (ktOf l) 0) = op ∧ ktNum (ktOf l) 1 = dy ∧ strOf (ktText (ktOf l) 2) = pt) := Lib.hid (by
    rw [Hop.out, Hdy.out, Hpt.out, Hx0.out, Hx1.out, Hx2.out]
    unfold ktText ktNum ktOf strOf
    rw [List.getElem?_map, List.getElem?_map, List.getElem?_map, List.getElem?_eq_getElem (by omega), List.getElem?_eq_getElem (by omega), List.getElem?_eq_getElem (by omega)]
    exact ⟨rfl, rfl, rfl⟩)
  obtain ⟨c, Hc⟩ : ∃ c, Hid (c = candE l) := ⟨_, Lib.hid rfl⟩
  have HSc : Hid (Sz c) := Lib.hid (by
    rw [Hc.out]
    refine sz_cand (n := 1407374883512) (fun x hx => ?_) (fun x hx => ?_) (by omega)
    · obtain ⟨y, hy, rfl⟩ := List.mem_map.1 hx
      exact Hok.out y hy
    · obtain ⟨y, hy, rfl⟩ := List.mem_map.1 hx
      exact HSt.out y hy)
  have HPa : Hid (parseE s.data.toList = if Evt.valid c = true ∧ textE c = s.data.toList then some c else none) := Lib.hid (by
    unfold parseE
    rw [HLxx.out]
    dsimp only
    rw [← Hc.out]
    by_cases h : Evt.valid c = true ∧ textE c = s.data.toList
    · rw [if_pos h, if_pos ⟨by rw [← Hn.out]; exact hn3, h.1, h.2⟩]
    · rw [if_neg h, if_neg (fun hh => h hh.2)])
  have HNone0 : Hid (¬ (Evt.valid c = true ∧ textE c = s.data.toList) → ∀ w, Below W.heap.size W w → ParsePost s W (.returned (.tuple #[.agg (evC zero).toArray, .int .i64 8])) w) := Lib.hid (fun h w hb => by
    unfold ParsePost
    rw [HPa.out, if_neg h]
    exact ⟨rfl, hb⟩)
  have HYes0 : Hid (Evt.valid c = true → textE c = s.data.toList → ∀ w, Below W.heap.size W w → ParsePost s W (.returned (.tuple #[.agg (evC c).toArray, .int .i64 0])) w) := Lib.hid (fun h1 h2 w hb => by
    unfold ParsePost
    rw [HPa.out, if_pos ⟨h1, h2⟩]
    exact ⟨rfl, hb⟩)
  have HRest : Hid (∀ (i : Nat), i ≤ 5 → ∀ w, Below w3.heap.size w3 w → Calls Tryz.prog 41 #[.int .i64 (i : Int), .pointer (some ⟨g4, 0, none⟩)] w fun e w' => e = .returned (.agg #[.int .i64 ((restTk l i).1 : Nat), .string (strOf (ktText (ktOf l) (3 + i))), .int .i64 ((restTk l i).2.2 : Nat)]) ∧ Below w.heap.size w w') := Lib.hid (fun i hi w hw => by
    have h := rest_any l (by rw [← Hn.out]; have := HN20.out; omega) (some ⟨tb, 0, none⟩) cap g4 i hi w (HI3.out.below stTk hw) (Nat.lt_of_lt_of_le HG4.out.lt hw.size) (by rw [← Hn.out]; exact HC4.out w hw)
    have e : (⟨(restTk l i).2.1.toArray⟩ : ByteArray) = strOf (ktText (ktOf l) (3 + i)) := by
      unfold restTk strOf ktText ktOf
      rw [List.getElem?_map]
      cases l[3 + i]? <;> rfl
    unfold tkC at h
    rw [e] at h
    exact h)
  have HCd : Hid (c = (if op = 1 then { e0 with kind := strOf (ktText (ktOf l) 3) } else if op = 2 then { e0 with into := strOf (ktText (ktOf l) 3), slot := strOf (ktText (ktOf l) 4) }
     else if op = 4 then { e0 with k0 := ktNum (ktOf l) 3, k1 := ktNum (ktOf l) 4, c0 := ktNum (ktOf l) 5, c1 := ktNum (ktOf l) 6, d0 := ktNum (ktOf l) 7, d1 := ktNum (ktOf l) 8 }
     else if op = 6 then { e0 with key := strOf (ktText (ktOf l) 3), value := strOf (ktText (ktOf l) 4) } else e0)) := Lib.hid (by
    rw [Hc.out, He1.out]
    unfold candE candT
    rw [HHC.out.1, HHC.out.2.1, HHC.out.2.2])
  have c0 : wz.cell? ⟨g7, 0, none⟩ = some (.int .i64 op) := by
    have h := HW7.out.cell 0
    rw [He1.out] at h
    exact h
  have hmf := Hmf.out
  have hfd : ∀ K T A w, (Instr.field 71 (.agg #[.int .i64 K, .string T, .int .i64 A]) 1).run Tryz.prog w = .ok (.string T) w := fun K T A w => field_tok K A T w
  clear hfew hd
  have hcase : op = 1 ∨ op = 2 ∨ op = 4 ∨ op = 6 ∨ (op ≠ 1 ∧ op ≠ 2 ∧ op ≠ 4 ∧ op ≠ 6) := by omega
  rcases hcase with h1 | h1 | h1 | h1 | ⟨h1, h2, h4, h6⟩
  · subst h1
    obtain ⟨K3, HK3⟩ : ∃ z : Int, Hid (z = ((restTk l 0).1 : Nat)) := ⟨_, Lib.hid rfl⟩
    obtain ⟨A3, HA3⟩ : ∃ z : Int, Hid (z = ((restTk l 0).2.2 : Nat)) := ⟨_, Lib.hid rfl⟩
    obtain ⟨T3, HT3⟩ : ∃ z, Hid (z = strOf (ktText (ktOf l) 3)) := ⟨_, Lib.hid rfl⟩
    have HR0 := Lib.hid (HRest.out 0 (by omega) wz HF0.out)
    rw [← HK3.out, ← HA3.out, ← HT3.out] at HR0
    have HcE : Hid (c = { e0 with kind := T3 }) := Lib.hid (by rw [HCd.out, if_pos rfl, HT3.out])
    go_wp2_with fail
    refine HR0.out.mono ?_
    rintro e w5 ⟨rfl, hb5⟩
    have HB5 := Lib.hid (below_step HBz.out hb5)
    have HW5 := Lib.hid (whole_belowM HW7.out hb5)
    have HN5 := Lib.hid (whole_belowM HNz.out hb5)
    have k3 : w5.cell? ⟨g7, 3, none⟩ = some (.string ⟨#[]⟩) := by
      have h := HW5.out.cell 3
      rw [He1.out] at h
      exact h
    have f3 : w5.frozen? ⟨g7, 3, none⟩ = false := HW5.out.frozen 3
    obtain ⟨wS, HwS⟩ : ∃ w, Hid (w = w5.setCell ⟨g7, 3, none⟩ (.string T3)) := ⟨_, Lib.hid rfl⟩
    have HWS : Hid (Whole wS g7 50 (evC c).toArray) := Lib.hid (by rw [HwS.out]; exact whole_setM HW5.out 3 _ (by rw [HcE.out, He1.out]; rfl))
    have HG5 : Hid (w5.grownBy wS (some g7)) := Lib.hid (by rw [HwS.out]; exact ⟨rfl, rfl, rfl, by simp, fun j _ hj => Below.heap_setCell _ _ _ _ (fun e => hj (by rw [e]))⟩)
    have HBS : Hid (Below W.heap.size W wS) := Lib.hid (HB5.out.grown HG5.out HB5.out.size (fun y e => by cases e; exact Nat.le_trans HB3.out.size Hg7.out))
    have HNS : Hid (Whole wS N 50 (evC zero).toArray) := Lib.hid (whole_grownM HN5.out HG5.out (fun e => by cases e; have h1 := Hg7.out; have h2 := HW3.out.lt; omega))
    clear hb5
    go_wp2_with (first
      | (with_reducible show wpList _ _ _ (Oper.mk _ (Op.load 50 _) _ _ _ _ :: _) _ _; refine Hid.out ?_))
    refine Lib.hid ?_
    rw [← HwS.out]
    clear k3 f3 c0
    go_wp2_with (first
      | (with_reducible show wpList _ _ _ (Oper.mk _ (Op.load 50 _) _ _ _ _ :: _) _ _; refine wpList_load_mid rfl _ _ rfl g7 0 rfl (evC c) _ (Whole.range HWS.out) Tryz.underlying50 rfl (HSp.out.trans rfl) ?_))
    cases hvc : Evt.valid c with
    | false =>
      have HNone := Lib.hid (HNone0.out (fun h => by rw [hvc] at h; cases h.1))
      have HTx := Lib.hid (evText_bad c HSc.out hvc wS)
      clear hvc
      refine HTx.out.mono ?_
      rintro e wt ⟨rfl, hbt⟩
      have HBn := Lib.hid (below_step HBS.out hbt)
      have HWn := Lib.hid (whole_belowM HNS.out hbt)
      clear hbt
      go_wp2_with (first
        | (with_reducible show wpList _ _ _ (Oper.mk _ (Op.store 50 _ _) _ _ _ _ :: _) _ _; refine Hid.out ?_))
      refine Lib.hid ?_
      refine wpList_store_whole rfl _ _ _ rfl N _ _ (evC zero).toArray rfl rfl HWn.out (HSp.out.trans rfl) rfl HOz.out ?_
      intro wz hwz hgz hsz
      have HWz := Lib.hid hwz
      have HBz : Hid (Below W.heap.size W wz) := Lib.hid (HBn.out.grown hgz HBn.out.size (fun k e => by cases e; rw [HN.out]; exact Nat.le_refl _))
      clear hwz hgz hsz
      go_wp2_with fail
      exact bodyPost_ret (results_pair (k := 2) (j := 3) rfl Tryz.underlying50 rfl _ _ N _ (HSp.out.trans rfl) HWz.out rfl) rfl (HNone.out wz HBz.out)
    | true =>
      have HTx := Lib.hid (evText_yes c HSc.out hvc wS (HT.out.1.below HBS.out) (HT.out.2.1.below HBS.out))
      obtain ⟨T, HTe⟩ : ∃ T : ByteArray, Hid (T = ⟨(textE c).toArray⟩) := ⟨_, Lib.hid rfl⟩
      rw [← HTe.out] at HTx
      obtain ⟨b, hb⟩ : ∃ b, (T.toList == s.toList) = b := ⟨_, rfl⟩
      have hb' : (T.toList != s.toList) = !b := by rw [← hb]; rfl
      have HBe : Hid (decide (textE c = s.data.toList) = b) := Lib.hid (by rw [← hb, HTe.out, eq_bts])
      have Hvc := Lib.hid hvc
      clear hvc
      refine HTx.out.mono ?_
      rintro e wt ⟨rfl, hbt⟩
      have HBn := Lib.hid (below_step HBS.out hbt)
      have HWn := Lib.hid (whole_belowM HNS.out hbt)
      have HWc := Lib.hid (whole_belowM HWS.out hbt)
      clear hbt
      cases b with
      | false =>
        have HNone := Lib.hid (HNone0.out (fun h => by have h2 := of_decide_eq_false HBe.out; exact h2 h.2))
        go_wp2_with (first
          | (with_reducible show wpList _ _ _ (Oper.mk _ (Op.store 50 _ _) _ _ _ _ :: _) _ _; refine Hid.out ?_))
        refine Lib.hid ?_
        refine wpList_store_whole rfl _ _ _ rfl N _ _ (evC zero).toArray rfl rfl HWn.out (HSp.out.trans rfl) rfl HOz.out ?_
        intro wz hwz hgz hsz
        have HWz := Lib.hid hwz
        have HBz : Hid (Below W.heap.size W wz) := Lib.hid (HBn.out.grown hgz HBn.out.size (fun k e => by cases e; rw [HN.out]; exact Nat.le_refl _))
        clear hwz hgz hsz
        go_wp2_with fail
        exact bodyPost_ret (results_pair (k := 2) (j := 3) rfl Tryz.underlying50 rfl _ _ N _ (HSp.out.trans rfl) HWz.out rfl) rfl (HNone.out wz HBz.out)
      | true =>
        have HYes := Lib.hid (HYes0.out Hvc.out (of_decide_eq_true HBe.out))
        go_wp2_with (first
          | (with_reducible show wpList _ _ _ (Oper.mk _ (Op.load 50 _) _ _ _ _ :: _) _ _; refine wpList_load_mid rfl _ _ rfl g7 0 rfl (evC c) _ (Whole.range HWc.out) Tryz.underlying50 rfl (HSp.out.trans rfl) ?_)
          | (with_reducible show wpList _ _ _ (Oper.mk _ (Op.store 50 _ _) _ _ _ _ :: _) _ _; refine Hid.out ?_))
        refine Lib.hid ?_
        refine wpList_store_whole rfl _ _ _ rfl N _ _ (evC c).toArray rfl rfl HWn.out (HSp.out.trans rfl) rfl (evC_one _) ?_
        intro wz hwz hgz hsz
        have HWz := Lib.hid hwz
        have HBz : Hid (Below W.heap.size W wz) := Lib.hid (HBn.out.grown hgz HBn.out.size (fun k e => by cases e; rw [HN.out]; exact Nat.le_refl _))
        clear hwz hgz hsz
        go_wp2_with fail
        exact bodyPost_ret (results_pair (k := 2) (j := 3) rfl Tryz.underlying50 rfl _ _ N _ (HSp.out.trans rfl) HWz.out rfl) rfl (HYes.out wz HBz.out)
  · subst h1
    obtain ⟨K3, HK3⟩ : ∃ z : Int, Hid (z = ((restTk l 0).1 : Nat)) := ⟨_, Lib.hid rfl⟩
    obtain ⟨A3, HA3⟩ : ∃ z : Int, Hid (z = ((restTk l 0).2.2 : Nat)) := ⟨_, Lib.hid rfl⟩
    obtain ⟨T3, HT3⟩ : ∃ z, Hid (z = strOf (ktText (ktOf l) 3)) := ⟨_, Lib.hid rfl⟩
    obtain ⟨K4, HK4⟩ : ∃ z : Int, Hid (z = ((restTk l 1).1 : Nat)) := ⟨_, Lib.hid rfl⟩
    obtain ⟨A4, HA4⟩ : ∃ z : Int, Hid (z = ((restTk l 1).2.2 : Nat)) := ⟨_, Lib.hid rfl⟩
    obtain ⟨T4, HT4⟩ : ∃ z, Hid (z = strOf (ktText (ktOf l) 4)) := ⟨_, Lib.hid rfl⟩
    have HR0 := Lib.hid (HRest.out 0 (by omega) wz HF0.out)
    have HR1 := Lib.hid (HRest.out 1 (by omega))
    rw [← HK3.out, ← HA3.out, ← HT3.out] at HR0
    rw [← HK4.out, ← HA4.out, show 3 + 1 = 4 from rfl, ← HT4.out] at HR1
    have HcE : Hid (c = { e0 with into := T3, slot := T4 }) := Lib.hid (by rw [HCd.out, if_neg (by decide), if_pos rfl, HT3.out, HT4.out])
    go_wp2_with fail
    refine HR0.out.mono ?_
    rintro e w4 ⟨rfl, hb4⟩
    have HB4 := Lib.hid (below_step HBz.out hb4)
    have HF4 := Lib.hid (below_step HF0.out hb4)
    have HW4 := Lib.hid (whole_belowM HW7.out hb4)
    have HN4 := Lib.hid (whole_belowM HNz.out hb4)
    clear hb4 c0
    go_wp2_with fail
    refine (HR1.out w4 HF4.out).mono ?_
    rintro e w5 ⟨rfl, hb5⟩
    have HB5 := Lib.hid (below_step HB4.out hb5)
    have HW5 := Lib.hid (whole_belowM HW4.out hb5)
    have HN5 := Lib.hid (whole_belowM HN4.out hb5)
    have k3 : w5.cell? ⟨g7, 4, none⟩ = some (.string ⟨#[]⟩) := by
      have h := HW5.out.cell 4
      rw [He1.out] at h
      exact h
    have f3 : w5.frozen? ⟨g7, 4, none⟩ = false := HW5.out.frozen 4
    have k4 : w5.cell? ⟨g7, 5, none⟩ = some (.string ⟨#[]⟩) := by
      have h := HW5.out.cell 5
      rw [He1.out] at h
      exact h
    have f4 : w5.frozen? ⟨g7, 5, none⟩ = false := HW5.out.frozen 5
    obtain ⟨wS, HwS⟩ : ∃ w, Hid (w = (w5.setCell ⟨g7, 4, none⟩ (.string T3)).setCell ⟨g7, 5, none⟩ (.string T4)) := ⟨_, Lib.hid rfl⟩
    have HWS : Hid (Whole wS g7 50 (evC c).toArray) := Lib.hid (by
      rw [HwS.out]
      exact whole_setM (whole_setM HW5.out 4 (.string T3) (cs' := evC { e0 with into := T3 }) (by rw [He1.out]; rfl)) 5 _ (by rw [HcE.out, He1.out]; rfl))
    have HG5 : Hid (w5.grownBy wS (some g7)) := Lib.hid (by rw [HwS.out]; exact ⟨rfl, rfl, rfl, by simp, fun j _ hj => (Below.heap_setCell _ _ _ _ (fun e => hj (by rw [e]))).trans (Below.heap_setCell _ _ _ _ (fun e => hj (by rw [e])))⟩)
    have HBS : Hid (Below W.heap.size W wS) := Lib.hid (HB5.out.grown HG5.out HB5.out.size (fun y e => by cases e; exact Nat.le_trans HB3.out.size Hg7.out))
    have HNS : Hid (Whole wS N 50 (evC zero).toArray) := Lib.hid (whole_grownM HN5.out HG5.out (fun e => by cases e; have h1 := Hg7.out; have h2 := HW3.out.lt; omega))
    clear hb5
    go_wp2_with (first
      | (with_reducible show wpList _ _ _ (Oper.mk _ (Op.load 50 _) _ _ _ _ :: _) _ _; refine Hid.out ?_))
    refine Lib.hid ?_
    rw [← HwS.out]
    clear k3 f3 k4 f4
    go_wp2_with (first
      | (with_reducible show wpList _ _ _ (Oper.mk _ (Op.load 50 _) _ _ _ _ :: _) _ _; refine wpList_load_mid rfl _ _ rfl g7 0 rfl (evC c) _ (Whole.range HWS.out) Tryz.underlying50 rfl (HSp.out.trans rfl) ?_))
    cases hvc : Evt.valid c with
    | false =>
      have HNone := Lib.hid (HNone0.out (fun h => by rw [hvc] at h; cases h.1))
      have HTx := Lib.hid (evText_bad c HSc.out hvc wS)
      clear hvc
      refine HTx.out.mono ?_
      rintro e wt ⟨rfl, hbt⟩
      have HBn := Lib.hid (below_step HBS.out hbt)
      have HWn := Lib.hid (whole_belowM HNS.out hbt)
      clear hbt
      go_wp2_with (first
        | (with_reducible show wpList _ _ _ (Oper.mk _ (Op.store 50 _ _) _ _ _ _ :: _) _ _; refine Hid.out ?_))
      refine Lib.hid ?_
      refine wpList_store_whole rfl _ _ _ rfl N _ _ (evC zero).toArray rfl rfl HWn.out (HSp.out.trans rfl) rfl HOz.out ?_
      intro wz hwz hgz hsz
      have HWz := Lib.hid hwz
      have HBz : Hid (Below W.heap.size W wz) := Lib.hid (HBn.out.grown hgz HBn.out.size (fun k e => by cases e; rw [HN.out]; exact Nat.le_refl _))
      clear hwz hgz hsz
      go_wp2_with fail
      exact bodyPost_ret (results_pair (k := 2) (j := 3) rfl Tryz.underlying50 rfl _ _ N _ (HSp.out.trans rfl) HWz.out rfl) rfl (HNone.out wz HBz.out)
    | true =>
      have HTx := Lib.hid (evText_yes c HSc.out hvc wS (HT.out.1.below HBS.out) (HT.out.2.1.below HBS.out))
      obtain ⟨T, HTe⟩ : ∃ T : ByteArray, Hid (T = ⟨(textE c).toArray⟩) := ⟨_, Lib.hid rfl⟩
      rw [← HTe.out] at HTx
      obtain ⟨b, hb⟩ : ∃ b, (T.toList == s.toList) = b := ⟨_, rfl⟩
      have hb' : (T.toList != s.toList) = !b := by rw [← hb]; rfl
      have HBe : Hid (decide (textE c = s.data.toList) = b) := Lib.hid (by rw [← hb, HTe.out, eq_bts])
      have Hvc := Lib.hid hvc
      clear hvc
      refine HTx.out.mono ?_
      rintro e wt ⟨rfl, hbt⟩
      have HBn := Lib.hid (below_step HBS.out hbt)
      have HWn := Lib.hid (whole_belowM HNS.out hbt)
      have HWc := Lib.hid (whole_belowM HWS.out hbt)
      clear hbt
      cases b with
      | false =>
        have HNone := Lib.hid (HNone0.out (fun h => by have h2 := of_decide_eq_false HBe.out; exact h2 h.2))
        go_wp2_with (first
          | (with_reducible show wpList _ _ _ (Oper.mk _ (Op.store 50 _ _) _ _ _ _ :: _) _ _; refine Hid.out ?_))
        refine Lib.hid ?_
        refine wpList_store_whole rfl _ _ _ rfl N _ _ (evC zero).toArray rfl rfl HWn.out (HSp.out.trans rfl) rfl HOz.out ?_
        intro wz hwz hgz hsz
        have HWz := Lib.hid hwz
        have HBz : Hid (Below W.heap.size W wz) := Lib.hid (HBn.out.grown hgz HBn.out.size (fun k e => by cases e; rw [HN.out]; exact Nat.le_refl _))
        clear hwz hgz hsz
        go_wp2_with fail
        exact bodyPost_ret (results_pair (k := 2) (j := 3) rfl Tryz.underlying50 rfl _ _ N _ (HSp.out.trans rfl) HWz.out rfl) rfl (HNone.out wz HBz.out)
      | true =>
        have HYes := Lib.hid (HYes0.out Hvc.out (of_decide_eq_true HBe.out))
        go_wp2_with (first
          | (with_reducible show wpList _ _ _ (Oper.mk _ (Op.load 50 _) _ _ _ _ :: _) _ _; refine wpList_load_mid rfl _ _ rfl g7 0 rfl (evC c) _ (Whole.range HWc.out) Tryz.underlying50 rfl (HSp.out.trans rfl) ?_)
          | (with_reducible show wpList _ _ _ (Oper.mk _ (Op.store 50 _ _) _ _ _ _ :: _) _ _; refine Hid.out ?_))
        refine Lib.hid ?_
        refine wpList_store_whole rfl _ _ _ rfl N _ _ (evC c).toArray rfl rfl HWn.out (HSp.out.trans rfl) rfl (evC_one _) ?_
        intro wz hwz hgz hsz
        have HWz := Lib.hid hwz
        have HBz : Hid (Below W.heap.size W wz) := Lib.hid (HBn.out.grown hgz HBn.out.size (fun k e => by cases e; rw [HN.out]; exact Nat.le_refl _))
        clear hwz hgz hsz
        go_wp2_with fail
        exact bodyPost_ret (results_pair (k := 2) (j := 3) rfl Tryz.underlying50 rfl _ _ N _ (HSp.out.trans rfl) HWz.out rfl) rfl (HYes.out wz HBz.out)
  · subst h1
    obtain ⟨gA, HgA⟩ : ∃ g, Hid (g = wz.heap.size) := ⟨_, Lib.hid rfl⟩
    obtain ⟨wA, HwA⟩ : ∃ w, Hid (w = wz.alloc (.cells (bnd (ktOf l) 0).toArray 74)) := ⟨_, Lib.hid rfl⟩
    have HbA : Hid ((#[.int .i64 0, .int .i64 0, .int .i64 0, .int .i64 0, .int .i64 0, .int .i64 0] : Array Value) = (bnd (ktOf l) 0).toArray) := Lib.hid rfl
    have hbA : Below wz.heap.size wz wA := by rw [HwA.out]; exact (Below.refl _ _).alloc (Nat.le_refl _) _
    have HR0 : Hid (Run6 W w3 wz N g7 gA (ktOf l) (evC e0) 0 wA) := Lib.hid ⟨below_step HF0.out hbA, below_step HBz.out hbA, whole_belowM HW7.out hbA, whole_belowM HNz.out hbA, by rw [HwA.out, HgA.out]; exact Whole.new _ _ _⟩
    have HcE : Hid (c = { e0 with k0 := ktNum (ktOf l) 3, k1 := ktNum (ktOf l) 4, c0 := ktNum (ktOf l) 5, c1 := ktNum (ktOf l) 6, d0 := ktNum (ktOf l) 7, d1 := ktNum (ktOf l) 8 }) := Lib.hid (by rw [HCd.out, if_neg (by decide), if_neg (by decide), if_pos rfl])
    have hgA : g7 < gA := by rw [HgA.out]; exact HW7.out.lt
    have h3A : w3.heap.size ≤ gA := Nat.le_trans Hg7.out (Nat.le_of_lt hgA)
    have hgN : N < g7 := Nat.lt_of_lt_of_le HW3.out.lt Hg7.out
    clear hbA
    go_wp2_with fail
    rw [HbA.out, ← HwA.out, ← HgA.out]
    clear c0
    go_loopw [62] (fun i wr => ∃ k : Nat, k ≤ 6 ∧ i = .int .i64 k ∧ Hid (Run6 W w3 wz N g7 gA (ktOf l) (evC e0) k wr)) (fun i _ => 6 - (intOf i).toNat)
    case atStart => exact ⟨0, by omega, by go_num, HR0⟩
    case round =>
      obtain ⟨k, hk, rfl, HK⟩ := hrel
      by_cases hk6 : k < 6
      · have hd : decide ((k : Int) < 6) = true := decide_eq_true (by omega)
        have hb0 : (0 : Int) ≤ k := by omega
        have hb1 : (k : Int) < 6 := by omega
        obtain ⟨K3, HK3⟩ : ∃ z : Int, Hid (z = ((restTk l k).1 : Nat)) := ⟨_, Lib.hid rfl⟩
        obtain ⟨A3, HA3⟩ : ∃ z : Int, Hid (z = ((restTk l k).2.2 : Nat)) := ⟨_, Lib.hid rfl⟩
        obtain ⟨T3, HT3⟩ : ∃ z, Hid (z = strOf (ktText (ktOf l) (3 + k))) := ⟨_, Lib.hid rfl⟩
        obtain ⟨Z3, HZ3⟩ : ∃ z : Int, Hid (z = ktNum (ktOf l) (3 + k)) := ⟨_, Lib.hid rfl⟩
        have HCr := Lib.hid (HRest.out k (by omega) _ HK.out.1)
        have HCn : Hid (∀ w, Errs w → Calls Tryz.prog 40 #[.agg #[.int .i64 K3, .string T3, .int .i64 A3]] w fun e w' => e = .returned (.int .i64 Z3) ∧ Below w.heap.size w w') := Lib.hid (fun w hw => by
          rw [HK3.out, HT3.out, HA3.out, HZ3.out, ← (rest_ok Hok.out HSt.out k).2.2]
          exact number_any (restTk l k).1 (strOf (ktText (ktOf l) (3 + k))) ((restTk l k).2.2 : Nat) (rest_ok Hok.out HSt.out k).1 (rest_ok Hok.out HSt.out k).2.1 w hw)
        rw [← HK3.out, ← HA3.out, ← HT3.out] at HCr
        go_wp2_with fail
        refine HCr.out.mono ?_
        rintro e w4 ⟨rfl, hb4⟩
        have HB4 := Lib.hid hb4
        clear hb4
        go_wp2_with fail
        refine (HCn.out w4 (HT.out.2.2.below (below_step HK.out.2.1 HB4.out))).mono ?_
        rintro e w5 ⟨rfl, hb5⟩
        have HR5 := Lib.hid (HK.out.below (below_step HB4.out hb5))
        clear hb5
        have k3 : w5.cell? ⟨gA, k, none⟩ = some (.int .i64 0) := (HR5.out.2.2.2.2.cell k).trans (by simpa using bnd_at _ hk6)
        have f3 : w5.frozen? ⟨gA, k, none⟩ = false := HR5.out.2.2.2.2.frozen k
        have HR6 : Hid (Run6 W w3 wz N g7 gA (ktOf l) (evC e0) (k + 1) (w5.setCell ⟨gA, k, none⟩ (.int .i64 Z3))) := Lib.hid (by
          rw [HZ3.out]
          exact HR5.out.set hk6 hgA hgN h3A (Nat.le_trans HB3.out.size h3A))
        go_wp2_with fail
        go_roundw
        case rel => exact ⟨k + 1, by omega, by go_num, HR6⟩
        case measure => simp [intOf]; omega
      · obtain rfl : k = 6 := by omega
        obtain ⟨z0, Hz0⟩ : ∃ z : Int, Hid (z = ktNum (ktOf l) 3) := ⟨_, Lib.hid rfl⟩
        obtain ⟨z1, Hz1⟩ : ∃ z : Int, Hid (z = ktNum (ktOf l) 4) := ⟨_, Lib.hid rfl⟩
        obtain ⟨z2, Hz2⟩ : ∃ z : Int, Hid (z = ktNum (ktOf l) 5) := ⟨_, Lib.hid rfl⟩
        obtain ⟨z3, Hz3⟩ : ∃ z : Int, Hid (z = ktNum (ktOf l) 6) := ⟨_, Lib.hid rfl⟩
        obtain ⟨z4, Hz4⟩ : ∃ z : Int, Hid (z = ktNum (ktOf l) 7) := ⟨_, Lib.hid rfl⟩
        obtain ⟨z5, Hz5⟩ : ∃ z : Int, Hid (z = ktNum (ktOf l) 8) := ⟨_, Lib.hid rfl⟩
        have a0 : wr.cell? ⟨gA, 0, none⟩ = some (.int .i64 z0) := by rw [Hz0.out]; exact HK.out.2.2.2.2.cell 0
        have a1 : wr.cell? ⟨gA, 1, none⟩ = some (.int .i64 z1) := by rw [Hz1.out]; exact HK.out.2.2.2.2.cell 1
        have a2 : wr.cell? ⟨gA, 2, none⟩ = some (.int .i64 z2) := by rw [Hz2.out]; exact HK.out.2.2.2.2.cell 2
        have a3 : wr.cell? ⟨gA, 3, none⟩ = some (.int .i64 z3) := by rw [Hz3.out]; exact HK.out.2.2.2.2.cell 3
        have a4 : wr.cell? ⟨gA, 4, none⟩ = some (.int .i64 z4) := by rw [Hz4.out]; exact HK.out.2.2.2.2.cell 4
        have a5 : wr.cell? ⟨gA, 5, none⟩ = some (.int .i64 z5) := by rw [Hz5.out]; exact HK.out.2.2.2.2.cell 5
        have e8 : wr.cell? ⟨g7, 8, none⟩ = some (.int .i64 0) := by
          have h := HK.out.2.2.1.cell 8
          rw [He1.out] at h
          exact h
        have e9 : wr.cell? ⟨g7, 9, none⟩ = some (.int .i64 0) := by
          have h := HK.out.2.2.1.cell 9
          rw [He1.out] at h
          exact h
        have e10 : wr.cell? ⟨g7, 10, none⟩ = some (.int .i64 0) := by
          have h := HK.out.2.2.1.cell 10
          rw [He1.out] at h
          exact h
        have e11 : wr.cell? ⟨g7, 11, none⟩ = some (.int .i64 0) := by
          have h := HK.out.2.2.1.cell 11
          rw [He1.out] at h
          exact h
        have e12 : wr.cell? ⟨g7, 12, none⟩ = some (.int .i64 0) := by
          have h := HK.out.2.2.1.cell 12
          rw [He1.out] at h
          exact h
        have e13 : wr.cell? ⟨g7, 13, none⟩ = some (.int .i64 0) := by
          have h := HK.out.2.2.1.cell 13
          rw [He1.out] at h
          exact h
        have f8 : wr.frozen? ⟨g7, 8, none⟩ = false := HK.out.2.2.1.frozen 8
        have f9 : wr.frozen? ⟨g7, 9, none⟩ = false := HK.out.2.2.1.frozen 9
        have f10 : wr.frozen? ⟨g7, 10, none⟩ = false := HK.out.2.2.1.frozen 10
        have f11 : wr.frozen? ⟨g7, 11, none⟩ = false := HK.out.2.2.1.frozen 11
        have f12 : wr.frozen? ⟨g7, 12, none⟩ = false := HK.out.2.2.1.frozen 12
        have f13 : wr.frozen? ⟨g7, 13, none⟩ = false := HK.out.2.2.1.frozen 13
        have hne : gA ≠ g7 := by omega
        have HNd : Hid (g7 ≠ gA ∧ N ≠ g7) := Lib.hid (by omega)
        go_wp2_with (first
          | (with_reducible show wpList _ _ _ (Oper.mk _ (Op.load 50 _) _ _ _ _ :: _) _ _; refine Hid.out ?_))
        refine Lib.hid ?_
        obtain ⟨wS, HwS⟩ : ∃ w, Hid (w = (((((wr.setCell ⟨g7, 8, none⟩ (.int .i64 z0)).setCell ⟨g7, 9, none⟩ (.int .i64 z1)).setCell ⟨g7, 10, none⟩ (.int .i64 z2)).setCell ⟨g7, 11, none⟩ (.int .i64 z3)).setCell ⟨g7, 12, none⟩ (.int .i64 z4)).setCell ⟨g7, 13, none⟩ (.int .i64 z5)) := ⟨_, Lib.hid rfl⟩
        rw [← HwS.out]
        have HWS : Hid (Whole wS g7 50 (evC c).toArray) := Lib.hid (by
          rw [HwS.out, HcE.out, ← Hz0.out, ← Hz1.out, ← Hz2.out, ← Hz3.out, ← Hz4.out, ← Hz5.out]
          exact whole_setM (whole_setM (whole_setM (whole_setM (whole_setM (whole_setM HK.out.2.2.1 8 _ rfl) 9 _ rfl) 10 _ rfl) 11 _ rfl) 12 _ rfl) 13 _ (by rw [He1.out]; rfl))
        have HG5 : Hid (wr.grownBy wS (some g7)) := Lib.hid (by
          rw [HwS.out]
          exact ⟨rfl, rfl, rfl, by simp, fun j _ hj => ((((((Below.heap_setCell _ _ _ _ (fun e => hj (by rw [e]))).trans (Below.heap_setCell _ _ _ _ (fun e => hj (by rw [e])))).trans (Below.heap_setCell _ _ _ _ (fun e => hj (by rw [e])))).trans (Below.heap_setCell _ _ _ _ (fun e => hj (by rw [e])))).trans (Below.heap_setCell _ _ _ _ (fun e => hj (by rw [e])))).trans (Below.heap_setCell _ _ _ _ (fun e => hj (by rw [e]))))⟩)
        have HBS : Hid (Below W.heap.size W wS) := Lib.hid (HK.out.2.1.grown HG5.out HK.out.2.1.size (fun y e => by cases e; exact Nat.le_trans HB3.out.size Hg7.out))
        have HNS : Hid (Whole wS N 50 (evC zero).toArray) := Lib.hid (whole_grownM HK.out.2.2.2.1 HG5.out (fun e => HNd.out.2 (Option.some.inj e).symm))
        clear a0 a1 a2 a3 a4 a5 e8 e9 e10 e11 e12 e13 f8 f9 f10 f11 f12 f13 hne h3A hgA hgN
        go_wp2_with (first
          | (with_reducible show wpList _ _ _ (Oper.mk _ (Op.load 50 _) _ _ _ _ :: _) _ _; refine wpList_load_mid rfl _ _ rfl g7 0 rfl (evC c) _ (Whole.range HWS.out) Tryz.underlying50 rfl (HSp.out.trans rfl) ?_))
        cases hvc : Evt.valid c with
        | false =>
          have HNone := Lib.hid (HNone0.out (fun h => by rw [hvc] at h; cases h.1))
          have HTx := Lib.hid (evText_bad c HSc.out hvc wS)
          clear hvc
          refine HTx.out.mono ?_
          rintro e wt ⟨rfl, hbt⟩
          have HBn := Lib.hid (below_step HBS.out hbt)
          have HWn := Lib.hid (whole_belowM HNS.out hbt)
          clear hbt
          go_wp2_with (first
            | (with_reducible show wpList _ _ _ (Oper.mk _ (Op.store 50 _ _) _ _ _ _ :: _) _ _; refine Hid.out ?_))
          refine Lib.hid ?_
          refine wpList_store_whole rfl _ _ _ rfl N _ _ (evC zero).toArray rfl rfl HWn.out (HSp.out.trans rfl) rfl HOz.out ?_
          intro wz hwz hgz hsz
          have HWz := Lib.hid hwz
          have HBz : Hid (Below W.heap.size W wz) := Lib.hid (HBn.out.grown hgz HBn.out.size (fun k e => by cases e; rw [HN.out]; exact Nat.le_refl _))
          clear hwz hgz hsz
          go_wp2_with fail
          exact bodyPost_ret (results_pair (k := 2) (j := 3) rfl Tryz.underlying50 rfl _ _ N _ (HSp.out.trans rfl) HWz.out rfl) rfl (HNone.out wz HBz.out)
        | true =>
          have HTx := Lib.hid (evText_yes c HSc.out hvc wS (HT.out.1.below HBS.out) (HT.out.2.1.below HBS.out))
          obtain ⟨T, HTe⟩ : ∃ T : ByteArray, Hid (T = ⟨(textE c).toArray⟩) := ⟨_, Lib.hid rfl⟩
          rw [← HTe.out] at HTx
          obtain ⟨b, hb⟩ : ∃ b, (T.toList == s.toList) = b := ⟨_, rfl⟩
          have hb' : (T.toList != s.toList) = !b := by rw [← hb]; rfl
          have HBe : Hid (decide (textE c = s.data.toList) = b) := Lib.hid (by rw [← hb, HTe.out, eq_bts])
          have Hvc := Lib.hid hvc
          clear hvc
          refine HTx.out.mono ?_
          rintro e wt ⟨rfl, hbt⟩
          have HBn := Lib.hid (below_step HBS.out hbt)
          have HWn := Lib.hid (whole_belowM HNS.out hbt)
          have HWc := Lib.hid (whole_belowM HWS.out hbt)
          clear hbt
          cases b with
          | false =>
            have HNone := Lib.hid (HNone0.out (fun h => by have h2 := of_decide_eq_false HBe.out; exact h2 h.2))
            go_wp2_with (first
              | (with_reducible show wpList _ _ _ (Oper.mk _ (Op.store 50 _ _) _ _ _ _ :: _) _ _; refine Hid.out ?_))
            refine Lib.hid ?_
            refine wpList_store_whole rfl _ _ _ rfl N _ _ (evC zero).toArray rfl rfl HWn.out (HSp.out.trans rfl) rfl HOz.out ?_
            intro wz hwz hgz hsz
            have HWz := Lib.hid hwz
            have HBz : Hid (Below W.heap.size W wz) := Lib.hid (HBn.out.grown hgz HBn.out.size (fun k e => by cases e; rw [HN.out]; exact Nat.le_refl _))
            clear hwz hgz hsz
            go_wp2_with fail
            exact bodyPost_ret (results_pair (k := 2) (j := 3) rfl Tryz.underlying50 rfl _ _ N _ (HSp.out.trans rfl) HWz.out rfl) rfl (HNone.out wz HBz.out)
          | true =>
            have HYes := Lib.hid (HYes0.out Hvc.out (of_decide_eq_true HBe.out))
            go_wp2_with (first
              | (with_reducible show wpList _ _ _ (Oper.mk _ (Op.load 50 _) _ _ _ _ :: _) _ _; refine wpList_load_mid rfl _ _ rfl g7 0 rfl (evC c) _ (Whole.range HWc.out) Tryz.underlying50 rfl (HSp.out.trans rfl) ?_)
              | (with_reducible show wpList _ _ _ (Oper.mk _ (Op.store 50 _ _) _ _ _ _ :: _) _ _; refine Hid.out ?_))
            refine Lib.hid ?_
            refine wpList_store_whole rfl _ _ _ rfl N _ _ (evC c).toArray rfl rfl HWn.out (HSp.out.trans rfl) rfl (evC_one _) ?_
            intro wz hwz hgz hsz
            have HWz := Lib.hid hwz
            have HBz : Hid (Below W.heap.size W wz) := Lib.hid (HBn.out.grown hgz HBn.out.size (fun k e => by cases e; rw [HN.out]; exact Nat.le_refl _))
            clear hwz hgz hsz
            go_wp2_with fail
            exact bodyPost_ret (results_pair (k := 2) (j := 3) rfl Tryz.underlying50 rfl _ _ N _ (HSp.out.trans rfl) HWz.out rfl) rfl (HYes.out wz HBz.out)
  · subst h1
    obtain ⟨K3, HK3⟩ : ∃ z : Int, Hid (z = ((restTk l 0).1 : Nat)) := ⟨_, Lib.hid rfl⟩
    obtain ⟨A3, HA3⟩ : ∃ z : Int, Hid (z = ((restTk l 0).2.2 : Nat)) := ⟨_, Lib.hid rfl⟩
    obtain ⟨T3, HT3⟩ : ∃ z, Hid (z = strOf (ktText (ktOf l) 3)) := ⟨_, Lib.hid rfl⟩
    obtain ⟨K4, HK4⟩ : ∃ z : Int, Hid (z = ((restTk l 1).1 : Nat)) := ⟨_, Lib.hid rfl⟩
    obtain ⟨A4, HA4⟩ : ∃ z : Int, Hid (z = ((restTk l 1).2.2 : Nat)) := ⟨_, Lib.hid rfl⟩
    obtain ⟨T4, HT4⟩ : ∃ z, Hid (z = strOf (ktText (ktOf l) 4)) := ⟨_, Lib.hid rfl⟩
    have HR0 := Lib.hid (HRest.out 0 (by omega) wz HF0.out)
    have HR1 := Lib.hid (HRest.out 1 (by omega))
    rw [← HK3.out, ← HA3.out, ← HT3.out] at HR0
    rw [← HK4.out, ← HA4.out, show 3 + 1 = 4 from rfl, ← HT4.out] at HR1
    have HcE : Hid (c = { e0 with key := T3, value := T4 }) := Lib.hid (by rw [HCd.out, if_neg (by decide), if_neg (by decide), if_neg (by decide), if_pos rfl, HT3.out, HT4.out])
    go_wp2_with fail
    refine HR0.out.mono ?_
    rintro e w4 ⟨rfl, hb4⟩
    have HB4 := Lib.hid (below_step HBz.out hb4)
    have HF4 := Lib.hid (below_step HF0.out hb4)
    have HW4 := Lib.hid (whole_belowM HW7.out hb4)
    have HN4 := Lib.hid (whole_belowM HNz.out hb4)
    clear hb4 c0
    go_wp2_with fail
    refine (HR1.out w4 HF4.out).mono ?_
    rintro e w5 ⟨rfl, hb5⟩
    have HB5 := Lib.hid (below_step HB4.out hb5)
    have HW5 := Lib.hid (whole_belowM HW4.out hb5)
    have HN5 := Lib.hid (whole_belowM HN4.out hb5)
    have k3 : w5.cell? ⟨g7, 6, none⟩ = some (.string ⟨#[]⟩) := by
      have h := HW5.out.cell 6
      rw [He1.out] at h
      exact h
    have f3 : w5.frozen? ⟨g7, 6, none⟩ = false := HW5.out.frozen 6
    have k4 : w5.cell? ⟨g7, 7, none⟩ = some (.string ⟨#[]⟩) := by
      have h := HW5.out.cell 7
      rw [He1.out] at h
      exact h
    have f4 : w5.frozen? ⟨g7, 7, none⟩ = false := HW5.out.frozen 7
    obtain ⟨wS, HwS⟩ : ∃ w, Hid (w = (w5.setCell ⟨g7, 6, none⟩ (.string T3)).setCell ⟨g7, 7, none⟩ (.string T4)) := ⟨_, Lib.hid rfl⟩
    have HWS : Hid (Whole wS g7 50 (evC c).toArray) := Lib.hid (by
      rw [HwS.out]
      exact whole_setM (whole_setM HW5.out 6 (.string T3) (cs' := evC { e0 with key := T3 }) (by rw [He1.out]; rfl)) 7 _ (by rw [HcE.out, He1.out]; rfl))
    have HG5 : Hid (w5.grownBy wS (some g7)) := Lib.hid (by rw [HwS.out]; exact ⟨rfl, rfl, rfl, by simp, fun j _ hj => (Below.heap_setCell _ _ _ _ (fun e => hj (by rw [e]))).trans (Below.heap_setCell _ _ _ _ (fun e => hj (by rw [e])))⟩)
    have HBS : Hid (Below W.heap.size W wS) := Lib.hid (HB5.out.grown HG5.out HB5.out.size (fun y e => by cases e; exact Nat.le_trans HB3.out.size Hg7.out))
    have HNS : Hid (Whole wS N 50 (evC zero).toArray) := Lib.hid (whole_grownM HN5.out HG5.out (fun e => by cases e; have h1 := Hg7.out; have h2 := HW3.out.lt; omega))
    clear hb5
    go_wp2_with (first
      | (with_reducible show wpList _ _ _ (Oper.mk _ (Op.load 50 _) _ _ _ _ :: _) _ _; refine Hid.out ?_))
    refine Lib.hid ?_
    rw [← HwS.out]
    clear k3 f3 k4 f4
    go_wp2_with (first
      | (with_reducible show wpList _ _ _ (Oper.mk _ (Op.load 50 _) _ _ _ _ :: _) _ _; refine wpList_load_mid rfl _ _ rfl g7 0 rfl (evC c) _ (Whole.range HWS.out) Tryz.underlying50 rfl (HSp.out.trans rfl) ?_))
    cases hvc : Evt.valid c with
    | false =>
      have HNone := Lib.hid (HNone0.out (fun h => by rw [hvc] at h; cases h.1))
      have HTx := Lib.hid (evText_bad c HSc.out hvc wS)
      clear hvc
      refine HTx.out.mono ?_
      rintro e wt ⟨rfl, hbt⟩
      have HBn := Lib.hid (below_step HBS.out hbt)
      have HWn := Lib.hid (whole_belowM HNS.out hbt)
      clear hbt
      go_wp2_with (first
        | (with_reducible show wpList _ _ _ (Oper.mk _ (Op.store 50 _ _) _ _ _ _ :: _) _ _; refine Hid.out ?_))
      refine Lib.hid ?_
      refine wpList_store_whole rfl _ _ _ rfl N _ _ (evC zero).toArray rfl rfl HWn.out (HSp.out.trans rfl) rfl HOz.out ?_
      intro wz hwz hgz hsz
      have HWz := Lib.hid hwz
      have HBz : Hid (Below W.heap.size W wz) := Lib.hid (HBn.out.grown hgz HBn.out.size (fun k e => by cases e; rw [HN.out]; exact Nat.le_refl _))
      clear hwz hgz hsz
      go_wp2_with fail
      exact bodyPost_ret (results_pair (k := 2) (j := 3) rfl Tryz.underlying50 rfl _ _ N _ (HSp.out.trans rfl) HWz.out rfl) rfl (HNone.out wz HBz.out)
    | true =>
      have HTx := Lib.hid (evText_yes c HSc.out hvc wS (HT.out.1.below HBS.out) (HT.out.2.1.below HBS.out))
      obtain ⟨T, HTe⟩ : ∃ T : ByteArray, Hid (T = ⟨(textE c).toArray⟩) := ⟨_, Lib.hid rfl⟩
      rw [← HTe.out] at HTx
      obtain ⟨b, hb⟩ : ∃ b, (T.toList == s.toList) = b := ⟨_, rfl⟩
      have hb' : (T.toList != s.toList) = !b := by rw [← hb]; rfl
      have HBe : Hid (decide (textE c = s.data.toList) = b) := Lib.hid (by rw [← hb, HTe.out, eq_bts])
      have Hvc := Lib.hid hvc
      clear hvc
      refine HTx.out.mono ?_
      rintro e wt ⟨rfl, hbt⟩
      have HBn := Lib.hid (below_step HBS.out hbt)
      have HWn := Lib.hid (whole_belowM HNS.out hbt)
      have HWc := Lib.hid (whole_belowM HWS.out hbt)
      clear hbt
      cases b with
      | false =>
        have HNone := Lib.hid (HNone0.out (fun h => by have h2 := of_decide_eq_false HBe.out; exact h2 h.2))
        go_wp2_with (first
          | (with_reducible show wpList _ _ _ (Oper.mk _ (Op.store 50 _ _) _ _ _ _ :: _) _ _; refine Hid.out ?_))
        refine Lib.hid ?_
        refine wpList_store_whole rfl _ _ _ rfl N _ _ (evC zero).toArray rfl rfl HWn.out (HSp.out.trans rfl) rfl HOz.out ?_
        intro wz hwz hgz hsz
        have HWz := Lib.hid hwz
        have HBz : Hid (Below W.heap.size W wz) := Lib.hid (HBn.out.grown hgz HBn.out.size (fun k e => by cases e; rw [HN.out]; exact Nat.le_refl _))
        clear hwz hgz hsz
        go_wp2_with fail
        exact bodyPost_ret (results_pair (k := 2) (j := 3) rfl Tryz.underlying50 rfl _ _ N _ (HSp.out.trans rfl) HWz.out rfl) rfl (HNone.out wz HBz.out)
      | true =>
        have HYes := Lib.hid (HYes0.out Hvc.out (of_decide_eq_true HBe.out))
        go_wp2_with (first
          | (with_reducible show wpList _ _ _ (Oper.mk _ (Op.load 50 _) _ _ _ _ :: _) _ _; refine wpList_load_mid rfl _ _ rfl g7 0 rfl (evC c) _ (Whole.range HWc.out) Tryz.underlying50 rfl (HSp.out.trans rfl) ?_)
          | (with_reducible show wpList _ _ _ (Oper.mk _ (Op.store 50 _ _) _ _ _ _ :: _) _ _; refine Hid.out ?_))
        refine Lib.hid ?_
        refine wpList_store_whole rfl _ _ _ rfl N _ _ (evC c).toArray rfl rfl HWn.out (HSp.out.trans rfl) rfl (evC_one _) ?_
        intro wz hwz hgz hsz
        have HWz := Lib.hid hwz
        have HBz : Hid (Below W.heap.size W wz) := Lib.hid (HBn.out.grown hgz HBn.out.size (fun k e => by cases e; rw [HN.out]; exact Nat.le_refl _))
        clear hwz hgz hsz
        go_wp2_with fail
        exact bodyPost_ret (results_pair (k := 2) (j := 3) rfl Tryz.underlying50 rfl _ _ N _ (HSp.out.trans rfl) HWz.out rfl) rfl (HYes.out wz HBz.out)
  · have n1 : (op == 1) = false := by simp [h1]
    have n2 : (op == 2) = false := by simp [h2]
    have n4 : (op == 4) = false := by simp [h4]
    have n6 : (op == 6) = false := by simp [h6]
    have HcE : Hid (c = e0) := Lib.hid (by rw [HCd.out, if_neg h1, if_neg h2, if_neg h4, if_neg h6])
    obtain ⟨wS, HwS⟩ : ∃ w, Hid (w = wz) := ⟨_, Lib.hid rfl⟩
    have HWS : Hid (Whole wS g7 50 (evC c).toArray) := Lib.hid (by rw [HwS.out, HcE.out]; exact HW7.out)
    have HBS : Hid (Below W.heap.size W wS) := Lib.hid (by rw [HwS.out]; exact HBz.out)
    have HNS : Hid (Whole wS N 50 (evC zero).toArray) := Lib.hid (by rw [HwS.out]; exact HNz.out)
    rw [← HwS.out] at c0 ⊢
    clear h1 h2 h4 h6
    go_wp2_with (first
      | (with_reducible show wpList _ _ _ (Oper.mk _ (Op.load 50 _) _ _ _ _ :: _) _ _; refine wpList_load_mid rfl _ _ rfl g7 0 rfl (evC c) _ (Whole.range HWS.out) Tryz.underlying50 rfl (HSp.out.trans rfl) ?_))
    cases hvc : Evt.valid c with
    | false =>
      have HNone := Lib.hid (HNone0.out (fun h => by rw [hvc] at h; cases h.1))
      have HTx := Lib.hid (evText_bad c HSc.out hvc wS)
      clear hvc
      refine HTx.out.mono ?_
      rintro e wt ⟨rfl, hbt⟩
      have HBn := Lib.hid (below_step HBS.out hbt)
      have HWn := Lib.hid (whole_belowM HNS.out hbt)
      clear hbt
      go_wp2_with (first
        | (with_reducible show wpList _ _ _ (Oper.mk _ (Op.store 50 _ _) _ _ _ _ :: _) _ _; refine Hid.out ?_))
      refine Lib.hid ?_
      refine wpList_store_whole rfl _ _ _ rfl N _ _ (evC zero).toArray rfl rfl HWn.out (HSp.out.trans rfl) rfl HOz.out ?_
      intro wz hwz hgz hsz
      have HWz := Lib.hid hwz
      have HBz : Hid (Below W.heap.size W wz) := Lib.hid (HBn.out.grown hgz HBn.out.size (fun k e => by cases e; rw [HN.out]; exact Nat.le_refl _))
      clear hwz hgz hsz
      go_wp2_with fail
      exact bodyPost_ret (results_pair (k := 2) (j := 3) rfl Tryz.underlying50 rfl _ _ N _ (HSp.out.trans rfl) HWz.out rfl) rfl (HNone.out wz HBz.out)
    | true =>
      have HTx := Lib.hid (evText_yes c HSc.out hvc wS (HT.out.1.below HBS.out) (HT.out.2.1.below HBS.out))
      obtain ⟨T, HTe⟩ : ∃ T : ByteArray, Hid (T = ⟨(textE c).toArray⟩) := ⟨_, Lib.hid rfl⟩
      rw [← HTe.out] at HTx
      obtain ⟨b, hb⟩ : ∃ b, (T.toList == s.toList) = b := ⟨_, rfl⟩
      have hb' : (T.toList != s.toList) = !b := by rw [← hb]; rfl
      have HBe : Hid (decide (textE c = s.data.toList) = b) := Lib.hid (by rw [← hb, HTe.out, eq_bts])
      have Hvc := Lib.hid hvc
      clear hvc
      refine HTx.out.mono ?_
      rintro e wt ⟨rfl, hbt⟩
      have HBn := Lib.hid (below_step HBS.out hbt)
      have HWn := Lib.hid (whole_belowM HNS.out hbt)
      have HWc := Lib.hid (whole_belowM HWS.out hbt)
      clear hbt
      cases b with
      | false =>
        have HNone := Lib.hid (HNone0.out (fun h => by have h2 := of_decide_eq_false HBe.out; exact h2 h.2))
        go_wp2_with (first
          | (with_reducible show wpList _ _ _ (Oper.mk _ (Op.store 50 _ _) _ _ _ _ :: _) _ _; refine Hid.out ?_))
        refine Lib.hid ?_
        refine wpList_store_whole rfl _ _ _ rfl N _ _ (evC zero).toArray rfl rfl HWn.out (HSp.out.trans rfl) rfl HOz.out ?_
        intro wz hwz hgz hsz
        have HWz := Lib.hid hwz
        have HBz : Hid (Below W.heap.size W wz) := Lib.hid (HBn.out.grown hgz HBn.out.size (fun k e => by cases e; rw [HN.out]; exact Nat.le_refl _))
        clear hwz hgz hsz
        go_wp2_with fail
        exact bodyPost_ret (results_pair (k := 2) (j := 3) rfl Tryz.underlying50 rfl _ _ N _ (HSp.out.trans rfl) HWz.out rfl) rfl (HNone.out wz HBz.out)
      | true =>
        have HYes := Lib.hid (HYes0.out Hvc.out (of_decide_eq_true HBe.out))
        go_wp2_with (first
          | (with_reducible show wpList _ _ _ (Oper.mk _ (Op.load 50 _) _ _ _ _ :: _) _ _; refine wpList_load_mid rfl _ _ rfl g7 0 rfl (evC c) _ (Whole.range HWc.out) Tryz.underlying50 rfl (HSp.out.trans rfl) ?_)
          | (with_reducible show wpList _ _ _ (Oper.mk _ (Op.store 50 _ _) _ _ _ _ :: _) _ _; refine Hid.out ?_))
        refine Lib.hid ?_
        refine wpList_store_whole rfl _ _ _ rfl N _ _ (evC c).toArray rfl rfl HWn.out (HSp.out.trans rfl) rfl (evC_one _) ?_
        intro wz hwz hgz hsz
        have HWz := Lib.hid hwz
        have HBz : Hid (Below W.heap.size W wz) := Lib.hid (HBn.out.grown hgz HBn.out.size (fun k e => by cases e; rw [HN.out]; exact Nat.le_refl _))
        clear hwz hgz hsz
        go_wp2_with fail
        exact bodyPost_ret (results_pair (k := 2) (j := 3) rfl Tryz.underlying50 rfl _ _ N _ (HSp.out.trans rfl) HWz.out rfl) rfl (HYes.out wz HBz.out)
noncomputable def txOf (x : Ev) : ByteArray := if Evt.valid x = true then ⟨(textE x).toArray⟩ else ⟨#[]⟩
theorem text_any (x : Ev) (hx : Sz x) (W : World) (hT : WTab W) (ht : Tab W) :
    Calls Tryz.prog 28 #[.agg (evC x).toArray] W fun e w' => e = .returned (.tuple #[.string (txOf x), .int .i64 (if Evt.valid x then 0 else 1)]) ∧ Below W.heap.size W w' := by
  cases hv : Evt.valid x with
  | true =>
    refine (evText_yes x hx hv W hT ht).mono ?_
    rintro e w' ⟨rfl, hb⟩
    exact ⟨by unfold txOf; rw [if_pos hv]; rfl, hb⟩
  | false =>
    refine (evText_bad x hx hv W).mono ?_
    rintro e w' ⟨rfl, hb⟩
    exact ⟨by unfold txOf; rw [if_neg (by rw [hv]; simp)]; rfl, hb⟩
end Go.Proofs.YtfkejnnbfneieaaGreatDoor
