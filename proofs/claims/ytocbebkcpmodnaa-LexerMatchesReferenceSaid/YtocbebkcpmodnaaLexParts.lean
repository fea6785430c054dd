/- LexerParts. -/
import Derived.Test.YtocbebkcpmodnaaLexSame
import Derived.Test.YtocbebkcpmodnaaLexBegin
namespace Go.Proofs.Ytocbebkcpmodnaa
open Go.RowKit

namespace Lex
theorem Laid.few {p : Nat} {s : List UInt8} {l : List Tk} (h : Laid p s l) : l.length ≤ s.length ∧ ∀ x ∈ l, x.2.2 ≤ p + s.length := by
  induction h with
  | nil p s h => exact ⟨Nat.zero_le _, fun x hx => by simp at hx⟩
  | cons p g w rest k t l hg hw hn h ih =>
    have hw1 : 1 ≤ w.length := by
      cases w with
      | nil => exact absurd rfl hn
      | cons c w => simp
    refine ⟨?_, fun x hx => ?_⟩
    · rw [List.length_cons, List.length_append, List.length_append]; have := ih.1; omega
    · rw [List.length_append, List.length_append]
      rcases List.mem_cons.1 hx with h1 | h1
      · rw [h1]; show p + g.length ≤ _; omega
      · have := ih.2 x h1; omega
theorem lex_few {s : List UInt8} {l : List Tk} (h : lex s = .ok l) : l.length ≤ s.length ∧ ∀ x ∈ l, x.2.2 ≤ s.length := by
  have := (lexF_laid _ 0 0 s l (Nat.lt_succ_self _) h).few
  exact ⟨this.1, fun x hx => by have := this.2 x hx; omega⟩
def shift (d : Nat) (l : List Tk) : List Tk := l.map fun x => (x.1, x.2.1, x.2.2 + d)
theorem lex_nl (u v : List UInt8) (h : u.length + v.length ≤ 4000) : lex (u ++ 10 :: v) = match lex u with | .error x => .error x | .ok a => match lex v with | .error x => .error (x.1, x.2 + (u.length + 1)) | .ok b => .ok (a ++ shift (u.length + 1) b) := by
  have hl : (u ++ 10 :: v).length = u.length + v.length + 1 := by rw [List.length_append, List.length_cons]; omega
  have h1 := lexF_nl (u.length + v.length + 1 + 1) 0 0 u v (by omega) (by omega)
  have h2 : lexF (u.length + v.length + 1 + 1) 0 0 u = lex u := lexF_fuel _ _ _ _ _ (by omega) (by omega)
  have h3 : lexF (u.length + v.length + 1 + 1) (0 + (u.length + 1)) 0 v = match lex v with | .error x => .error (x.1, x.2 + (u.length + 1)) | .ok l => .ok (shift (u.length + 1) l) := by
    rw [lexF_shift]
    have : lexF (u.length + v.length + 1 + 1) 0 0 v = lex v := lexF_fuel _ _ _ _ _ (by omega) (by omega)
    rw [this]; rfl
  rw [h2] at h1
  show lexF ((u ++ 10 :: v).length + 1) 0 0 (u ++ 10 :: v) = _
  rw [hl, h1]
  cases lex u with
  | error x => rfl
  | ok a =>
    dsimp only
    rw [show 0 + u.length + 1 = 0 + (u.length + 1) by omega, h3]
    cases lex v with
    | error x => rfl
    | ok b => rfl
end Lex

theorem toks_row {w : World} {B : Nat} {ao : Option Addr} {cap : Nat} {l : List Lex.Tk} (h : Toks w B ao cap l) : TokRow w ao l := fun j k t a hj => by
  obtain ⟨g, h1, _, h2, h3, h4, h5⟩ := toks_at h hj
  exact ⟨g, 0, h1, h2, by rw [Nat.zero_add, Nat.mul_comm]; exact h3, by rw [Nat.zero_add, Nat.mul_comm]; exact h4, by rw [Nat.zero_add, Nat.mul_comm]; exact h5⟩
theorem toks_front {w : World} {B : Nat} {ao : Option Addr} {cap : Nat} {l r : List Lex.Tk} (h : Toks w B ao cap (l ++ r)) : TokRow w ao l := fun j k t a hj =>
  toks_row h j k t a (by rw [List.getElem?_append_left (List.getElem?_eq_some_iff.1 hj).1]; exact hj)
theorem toks_back {w : World} {B g : Nat} {cap : Nat} {l r : List Lex.Tk} (h : Toks w B (some ⟨g, 0, none⟩) cap (l ++ r)) : TokRow w (some ⟨g, l.length * 3, none⟩) r := fun j k t a hj => by
  obtain ⟨g', off, h1, h2, h3, h4, h5⟩ := toks_row h (l.length + j) k t a (by rw [List.getElem?_append_right (by omega), Nat.add_sub_cancel_left]; exact hj)
  injection h1 with h1
  injection h1 with h1 h1' _
  subst h1 h1'
  have e : 0 + (l.length + j) * 3 = l.length * 3 + j * 3 := by omega
  rw [e] at h3 h4 h5
  exact ⟨g, l.length * 3, rfl, h2, h3, h4, h5⟩
theorem TokRow.below {W w : World} {p : Option Addr} {l : List Lex.Tk} (h : TokRow W p l) (hb : Below W.heap.size W w) : TokRow w p l := fun j k t a hj => by
  obtain ⟨g, off, h1, h2, h3, h4, h5⟩ := h j k t a hj
  exact ⟨g, off, h1, Nat.lt_of_lt_of_le h2 hb.size, (cell_below hb h2 _).trans h3, (cell_below hb h2 _).trans h4, (cell_below hb h2 _).trans h5⟩

set_option maxRecDepth 100000 in
set_option maxHeartbeats 4000000 in
theorem parts_any (T U : ByteArray) (W : World) : Calls Try.prog 6 #[.string T, .string U] W fun e w' => e = .returned (.bool true) ∧ Below W.heap.size W w' := by
  have HH := Lib.hid (head_any W)
  go_enter Try.func6, Try.ntmps6
  go_wp2_with fail
  refine HH.out.mono ?_
  rintro e w1 ⟨rfl, hb⟩
  have HB1 := Lib.hid hb
  clear hb HH
  by_cases h3 : 1500 < T.size
  · have hd : decide ((1500 : Int) < T.size) = true := decide_eq_true (by omega)
    go_wp2_with fail
    go_ret
    exact ⟨rfl, HB1.out⟩
  · have hd : decide ((1500 : Int) < T.size) = false := decide_eq_false (by omega)
    by_cases h4 : 1500 < U.size
    · have hd2 : decide ((1500 : Int) < U.size) = true := decide_eq_true (by omega)
      go_wp2_with fail
      go_ret
      exact ⟨rfl, HB1.out⟩
    · have hd2 : decide ((1500 : Int) < U.size) = false := decide_eq_false (by omega)
      have hq1 : ¬ (9223372036854775807 < T.size + 1) := by omega
      have hq2 : ¬ (9223372036854775807 < T.size + 1 + U.size) := by omega
      have HT9 := Lib.hid (show T.size ≤ 1500 by omega)
      have HU9 := Lib.hid (show U.size ≤ 1500 by omega)
      obtain ⟨V, HV⟩ : ∃ V : ByteArray, Hid (V = T ++ ⟨#[10]⟩ ++ U) := ⟨_, Lib.hid rfl⟩
      have HV1 : Hid (V.data.toList = T.data.toList ++ 10 :: U.data.toList) := Lib.hid (by
        rw [HV.out, ByteArray.data_append, ByteArray.data_append]
        simp)
      have HV2 : Hid (V.size ≤ 20000) := Lib.hid (by
        have h1 : V.data.toList.length = V.size := rfl
        have h2 : T.data.toList.length = T.size := rfl
        have h4 : U.data.toList.length = U.size := rfl
        rw [← h1, HV1.out, List.length_append, List.length_cons]
        omega)
      have HX := Lib.hid (Lex.lex_nl T.data.toList U.data.toList (show T.size + U.size ≤ 4000 by omega))
      rw [← HV1.out] at HX
      clear h3 h4
      cases hx : Lex.lex T.data.toList with
      | error y =>
        obtain ⟨x, q⟩ := y
        rw [hx] at HX
        have HL1 := Lib.hid (fun w => lex_bad T (by have := HT9.out; omega) x q hx w)
        have HL2 := Lib.hid (fun w => lex_any U (by have := HU9.out; omega) w)
        have HL3 := Lib.hid (fun w => lex_bad V HV2.out x q HX.out w)
        clear hx
        go_wp2_with fail
        refine (HL1.out _).mono ?_
        rintro e w2 ⟨rfl, hx0, hb⟩
        have HB2 := Lib.hid (HB1.out.trans (hb.mono HB1.out.size))
        have hxe : ((x : Int) == 0) = false := by
          have : ((x : Int) == 0) = decide ((x : Int) = 0) := rfl
          rw [this, decide_eq_false]; omega
        clear hb HB1 hx0
        go_wp2_with fail
        refine (HL2.out _).mono ?_
        rintro e w3 ⟨hb, hcs⟩
        have HB3 := Lib.hid (HB2.out.trans (hb.mono HB2.out.size))
        obtain ⟨u1, u2, u3, rfl⟩ : ∃ u1 u2 u3, e = .returned (.tuple #[u1, u2, u3]) := by
          rcases hcs with ⟨_, h⟩ | ⟨_, _, _, _, _, h⟩ | ⟨_, _, _, _, _, h, _⟩
          · exact ⟨_, _, _, h⟩
          · exact ⟨_, _, _, h⟩
          · exact ⟨_, _, _, h⟩
        clear hb HB2 hcs
        go_wp2_with fail
        rw [← HV.out]
        refine (HL3.out _).mono ?_
        rintro e w4 ⟨rfl, -, hb⟩
        have HB4 := Lib.hid (HB3.out.trans (hb.mono HB3.out.size))
        clear hb HB3
        go_wp2_with fail
        go_ret
        exact ⟨rfl, HB4.out⟩
      | ok l =>
        rw [hx] at HX
        have HL1 := Lib.hid (fun w => lex_ok T (by have := HT9.out; omega) l hx w)
        have HF1 := Lib.hid (Lex.lex_few hx)
        cases hy : Lex.lex U.data.toList with
        | error y =>
          obtain ⟨x, q⟩ := y
          rw [hy] at HX
          have HL2 := Lib.hid (fun w => lex_bad U (by have := HU9.out; omega) x q hy w)
          have HL3 := Lib.hid (fun w => lex_bad V HV2.out x _ HX.out w)
          have eL : T.data.toList.length = T.size := rfl
          rw [eL] at HL3
          have hqb : q < U.size := (Lex.begin hy (show U.size ≤ 4000 by have := HU9.out; omega)).1
          have hU15 := HU9.out
          have hT15 := HT9.out
          clear hx hy eL
          go_wp2_with fail
          refine (HL1.out _).mono ?_
          rintro e w2 ⟨ao, cap, rfl, ht, hb⟩
          have HB2 := Lib.hid (HB1.out.trans (hb.mono HB1.out.size))
          clear hb HB1 ht
          go_wp2_with fail
          refine (HL2.out _).mono ?_
          rintro e w3 ⟨rfl, hx0, hb⟩
          have HB3 := Lib.hid (HB2.out.trans (hb.mono HB2.out.size))
          have hxe : ((x : Int) == 0) = false := by
            have : ((x : Int) == 0) = decide ((x : Int) = 0) := rfl
            rw [this, decide_eq_false]; omega
          clear hb HB2 hx0
          go_wp2_with fail
          rw [← HV.out]
          refine (HL3.out _).mono ?_
          rintro e w4 ⟨rfl, -, hb⟩
          have HB4 := Lib.hid (HB3.out.trans (hb.mono HB3.out.size))
          clear hb HB3
          have hqq : (((q + (T.size + 1) : Nat) : Int) == (q : Int) + (T.size : Int) + 1) = true := by
            have : ((q + (T.size + 1) : Nat) : Int) = (q : Int) + (T.size : Int) + 1 := by omega
            rw [this]; exact beq_self_eq_true _
          go_wp2_with fail
          go_ret
          exact ⟨by simp_all, HB4.out⟩
        | ok r =>
          rw [hy] at HX
          have HL2 := Lib.hid (fun w => lex_ok U (by have := HU9.out; omega) r hy w)
          have HF2 := Lib.hid (Lex.lex_few hy)
          have HL3 := Lib.hid (fun w => lex_ok V HV2.out _ HX.out w)
          have eL : T.data.toList.length = T.size := rfl
          have eU : U.data.toList.length = U.size := rfl
          rw [eL] at HL3 HF1
          rw [eU] at HF2
          have hlen : (l ++ Lex.shift (T.size + 1) r).length = l.length + r.length := by unfold Lex.shift; rw [List.length_append, List.length_map]
          rw [hlen] at HL3
          have hU15 := HU9.out
          have hT15 := HT9.out
          obtain ⟨n1, Hn1⟩ : ∃ n, Hid (n = l.length) := ⟨_, Lib.hid rfl⟩
          obtain ⟨n2, Hn2⟩ : ∃ n, Hid (n = r.length) := ⟨_, Lib.hid rfl⟩
          have hn1 : n1 ≤ 1500 := by have := HF1.out.1; rw [Hn1.out]; omega
          have hn2 : n2 ≤ 1500 := by have := HF2.out.1; rw [Hn2.out]; omega
          have HS1 : Hid (∀ w pb ca cb, TokRow w (ca : Option Addr) l → TokRow w pb l → ∀ c1 c2, Calls Try.prog 14 #[.slice ca n1 c1, .int .i64 0, .slice pb n1 c2] w fun e w' => cb = cb ∧ e = .returned (.bool true) ∧ Below w.heap.size w w') := Lib.hid fun w pb ca (cb : Nat) h1 h2 c1 c2 => by
            have := same_true ca pb c1 c2 0 (by omega) l (fun x hx => by have := HF1.out.2 x hx; omega) (by have := HF1.out.1; omega) w h1 (by simpa using h2)
            rw [← Hn1.out] at this
            exact this.mono fun e w' h => ⟨rfl, h⟩
          have HS2 : Hid (∀ w pb ca, TokRow w (ca : Option Addr) r → TokRow w pb (Lex.shift (T.size + 1) r) → ∀ c1 c2, Calls Try.prog 14 #[.slice ca n2 c1, .int .i64 ((T.size : Int) + 1), .slice pb n2 c2] w fun e w' => e = .returned (.bool true) ∧ Below w.heap.size w w') := Lib.hid fun w pb ca h1 h2 c1 c2 => by
            have := same_true ca pb c1 c2 (T.size + 1) (by omega) r (fun x hx => by have := HF2.out.2 x hx; omega) (by have := HF2.out.1; omega) w h1 h2
            rw [← Hn2.out] at this
            push_cast at this
            exact this
          rw [← Hn1.out, ← Hn2.out] at HL3
          rw [← Hn1.out] at HL1
          rw [← Hn2.out] at HL2
          clear hx hy eL eU hlen
          go_wp2_with fail
          refine (HL1.out _).mono ?_
          rintro e w2 ⟨ao, cap, rfl, ht, hb⟩
          have HB2 := Lib.hid (HB1.out.trans (hb.mono HB1.out.size))
          have HR1 := Lib.hid (toks_row ht)
          clear hb HB1 ht
          go_wp2_with fail
          refine (HL2.out _).mono ?_
          rintro e w3 ⟨ao', cap', rfl, ht, hb⟩
          have HB3 := Lib.hid (HB2.out.trans (hb.mono HB2.out.size))
          have HR1' := Lib.hid (HR1.out.below hb)
          have HR2 := Lib.hid (toks_row ht)
          clear hb HB2 ht HR1
          go_wp2_with fail
          rw [← HV.out]
          refine (HL3.out _).mono ?_
          rintro e w4 ⟨ao3, cap3, rfl, ht, hb⟩
          have HB4 := Lib.hid (HB3.out.trans (hb.mono HB3.out.size))
          have HRa := Lib.hid (HR1'.out.below hb)
          have HRb := Lib.hid (HR2.out.below hb)
          have HTk := Lib.hid ht
          have HFr := Lib.hid (toks_front ht)
          have hcapA : n1 + n2 ≤ cap3 := by
            rcases ht.2 with ⟨_, h0⟩ | ⟨g, cp, cur, hv, _, _, hle, _⟩
            · have h1 : (l ++ Lex.shift (T.size + 1) r).length = n1 + n2 := by unfold Lex.shift; rw [List.length_append, List.length_map, Hn1.out, Hn2.out]
              omega
            · have h1 : (l ++ Lex.shift (T.size + 1) r).length = n1 + n2 := by unfold Lex.shift; rw [List.length_append, List.length_map, Hn1.out, Hn2.out]
              injection hv with _ _ hv
              rw [h1] at hle
              omega
          clear hb HB3 ht HR1' HR2
          have hca : (n1 : Int) ≤ cap3 := by omega
          have hcb : (n1 : Int) ≤ (n1 : Int) + n2 := by omega
          have HNil : Hid (n2 = 0 → ∀ w p, TokRow w p (Lex.shift (T.size + 1) r)) := Lib.hid fun h w p j k t a hj => by
            have hr : r = [] := List.eq_nil_of_length_eq_zero (by rw [← Hn2.out]; exact h)
            rw [hr] at hj
            simp [Lex.shift] at hj
          have hnone : ao3 = none → n1 = 0 ∧ n2 = 0 ∧ cap3 = 0 := fun hno => by
            have h1 : (l ++ Lex.shift (T.size + 1) r).length = n1 + n2 := by unfold Lex.shift; rw [List.length_append, List.length_map, Hn1.out, Hn2.out]
            rcases HTk.out.2 with ⟨hv, h0⟩ | ⟨g, cp, cur, hv, _⟩
            · injection hv with _ _ hv
              omega
            · rw [hno] at hv
              injection hv with hv
              cases hv
          have hsome : ∀ p, ao3 = some p → ∃ g, p = ⟨g, 0, none⟩ := fun p hp => by
            rcases HTk.out.2 with ⟨hv, h0⟩ | ⟨g, cp, cur, hv, _⟩
            · rw [hp] at hv
              injection hv with hv
              cases hv
            · rw [hp] at hv
              injection hv with hv
              injection hv with hv
              exact ⟨g, hv⟩
          cases ao3 with
          | none =>
            obtain ⟨h1, h2, h3⟩ := hnone rfl
            subst h1 h2 h3
            clear hnone hsome
            go_wp2_with (go_at_call 14; with_reducible refine (HS1.out _ _ _ 0 HRa.out HFr.out _ _).mono ?_; rintro e w5 ⟨-, rfl, hb⟩; have HB5 := Lib.hid (HB4.out.trans (hb.mono HB4.out.size)); have HRc := Lib.hid (HRb.out.below hb); clear hb HB4)
            refine (HS2.out _ _ _ HRc.out (HNil.out (by trivial) _ _) _ _).mono ?_
            rintro e w6 ⟨rfl, hb⟩
            have HB6 := Lib.hid (HB5.out.trans (hb.mono HB5.out.size))
            clear hb HB5
            go_wp2_with fail
            go_ret
            exact ⟨rfl, HB6.out⟩
          | some p =>
            obtain ⟨g, rfl⟩ := hsome p rfl
            clear hnone hsome
            by_cases hc : cap3 = n1
            · have h2 : n2 = 0 := by omega
              subst hc h2
              go_wp2_with (go_at_call 14; with_reducible refine (HS1.out _ _ _ 0 HRa.out HFr.out _ _).mono ?_; rintro e w5 ⟨-, rfl, hb⟩; have HB5 := Lib.hid (HB4.out.trans (hb.mono HB4.out.size)); have HRc := Lib.hid (HRb.out.below hb); clear hb HB4)
              refine (HS2.out _ _ _ HRc.out (HNil.out (by trivial) _ _) _ _).mono ?_
              rintro e w6 ⟨rfl, hb⟩
              have HB6 := Lib.hid (HB5.out.trans (hb.mono HB5.out.size))
              clear hb HB5
              go_wp2_with fail
              go_ret
              exact ⟨rfl, HB6.out⟩
            · have HBk := Lib.hid (toks_back HTk.out)
              rw [← Hn1.out] at HBk
              go_wp2_with (go_at_call 14; with_reducible refine (HS1.out _ _ _ 0 HRa.out HFr.out _ _).mono ?_; rintro e w5 ⟨-, rfl, hb⟩; have HB5 := Lib.hid (HB4.out.trans (hb.mono HB4.out.size)); have HRc := Lib.hid (HRb.out.below hb); have HBk5 := Lib.hid (HBk.out.below hb); clear hb HB4)
              refine (HS2.out _ _ _ HRc.out HBk5.out _ _).mono ?_
              rintro e w6 ⟨rfl, hb⟩
              have HB6 := Lib.hid (HB5.out.trans (hb.mono HB5.out.size))
              clear hb HB5
              go_wp2_with fail
              go_ret
              exact ⟨rfl, HB6.out⟩

end Go.Proofs.Ytocbebkcpmodnaa
