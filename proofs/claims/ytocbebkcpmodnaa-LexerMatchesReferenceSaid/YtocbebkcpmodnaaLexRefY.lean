/- The reference's Lex. -/
import Derived.Test.YtocbebkcpmodnaaLexRefX
import Derived.Test.YtocbebkcpmodnaaLexSame
namespace Go.Proofs.Ytocbebkcpmodnaa
open Go.RowKit

namespace Lex
theorem tok_err {c : UInt8} {r : List UInt8} {e : Nat} (h : tok c r = .err e) : e ≠ 0 := by
  unfold tok at h
  repeat' split at h
  all_goals first
    | (cases h; decide)
    | (cases h)
theorem rest_drop {T : ByteArray} {q : Nat} {k : Nat} {t rest : List UInt8} (hq : q < T.size) (h : tok T[q] (T.data.toList.drop (q + 1)) = .ok k t rest) :
    rest = T.data.toList.drop (T.size - rest.length) ∧ q < T.size - rest.length ∧ rest.length ≤ T.size - (q + 1) := by
  obtain ⟨body, h5, -⟩ := tok_written h
  have hl := congrArg List.length h5
  rw [List.length_drop, List.length_append, show T.data.toList.length = T.size from rfl] at hl
  refine ⟨?_, by omega, by omega⟩
  have e : T.size - rest.length = q + 1 + body.length := by omega
  rw [e, ← List.drop_drop, h5, List.drop_left]
/-- What the loop has so far: the tokens ahead of an offset, and what is to come. -/
def Sofar (T : ByteArray) (q n : Nat) (pre : List Tk) : Prop := n = pre.length ∧ n ≤ 5000 ∧ ∃ q0, q0 ≤ q ∧ skip false (T.data.toList.drop q0) = T.data.toList.drop q ∧ lex T.data.toList = (lexF (T.size + 1) q0 n (T.data.toList.drop q0)).map (pre ++ ·)
theorem sofar_start {T : ByteArray} {q : Nat} (h : skip false (T.data.toList.drop 0) = T.data.toList.drop q) : Sofar T q 0 [] := by
  refine ⟨rfl, Nat.zero_le _, 0, Nat.zero_le _, h, ?_⟩
  rw [List.drop_zero]
  show lexF (T.size + 1) 0 0 T.data.toList = _
  cases lexF (T.size + 1) 0 0 T.data.toList <;> rfl
theorem sofar_done {T : ByteArray} {q n : Nat} {pre : List Tk} (h : Sofar T q n pre) (hq : ¬ q < T.size) : lex T.data.toList = .ok pre := by
  obtain ⟨-, -, q0, -, h1, h2⟩ := h
  rw [h2]
  unfold lexF
  rw [h1, List.drop_eq_nil_of_le (show T.data.toList.length ≤ q by show T.size ≤ q; omega)]
  simp [Except.map]
theorem sofar_step {T : ByteArray} {q n : Nat} {pre : List Tk} (h : Sofar T q n pre) (hq : q < T.size) : match tok T[q] (T.data.toList.drop (q + 1)) with
    | .err e => lex T.data.toList = .error (e, q)
    | .ok k t rest => (n = 5000 → lex T.data.toList = .error (7, q)) ∧ (n ≠ 5000 → ∀ q', T.size - rest.length ≤ q' → skip false (T.data.toList.drop (T.size - rest.length)) = T.data.toList.drop q' → Sofar T q' (n + 1) (pre ++ [(k, t, q)])) := by
  obtain ⟨h0, h5, q0, hq0, h1, h2⟩ := h
  have hlen : T.data.toList.length = T.size := rfl
  have e1 : q0 + ((T.data.toList.drop q0).length - ((T.data.toList.drop (q + 1)).length + 1)) = q := by simp only [List.length_drop]; omega
  have hx : lex T.data.toList = (match tok T[q] (T.data.toList.drop (q + 1)) with
      | .err e => (Except.error (e, q) : Except (Nat × Nat) (List Tk))
      | .ok k t rest => if n = 5000 then (Except.error (7, q) : Except (Nat × Nat) (List Tk)) else (lexF T.size (q0 + ((T.data.toList.drop q0).length - rest.length)) (n + 1) rest).map fun l => (k, t, q) :: l).map (pre ++ ·) := by
    rw [h2]
    conv => lhs; unfold lexF
    rw [h1, drop_cons hq]
    dsimp only
    rw [e1]
    cases tok T[q] (T.data.toList.drop (q + 1)) <;> rfl
  cases ht : tok T[q] (T.data.toList.drop (q + 1)) with
  | err e => rw [ht] at hx; exact hx
  | ok k t rest =>
    rw [ht] at hx
    dsimp only at hx ⊢
    obtain ⟨r1, r2, r3⟩ := rest_drop hq ht
    refine ⟨fun hn => by rw [if_pos hn] at hx; exact hx, fun hn q' hq' hs => ?_⟩
    rw [if_neg hn] at hx
    refine ⟨by rw [List.length_append, ← h0]; rfl, by omega, T.size - rest.length, hq', hs, ?_⟩
    rw [hx]
    have e2 : q0 + ((T.data.toList.drop q0).length - rest.length) = T.size - rest.length := by simp only [List.length_drop]; omega
    rw [e2, ← r1, lexF_fuel T.size (T.size + 1) _ _ rest (by omega) (by omega)]
    cases lexF (T.size + 1) (T.size - rest.length) (n + 1) rest with
    | error x => rfl
    | ok l => simp [Except.map]
end Lex

theorem below_grownBy {w w' : World} (h : Below w.heap.size w w') (row : Option Nat) : w.grownBy w' row := ⟨h.os, h.tape, h.output, h.size, fun k hk _ => h.block k hk⟩
theorem toks_snoc (pre : List Lex.Tk) (k : Nat) (t : List UInt8) (q : Nat) : cellsY ((pre ++ [(k, t, q)]).map fun x => ((x.1 : Int), (⟨x.2.1.toArray⟩ : ByteArray), x.2.2, (0 : Nat))) = cellsY (pre.map fun x => ((x.1 : Int), (⟨x.2.1.toArray⟩ : ByteArray), x.2.2, (0 : Nat))) ++ [.int .i64 (k : Int), .string ⟨t.toArray⟩, .int .i64 (q : Int)] := by
  rw [List.map_append, List.map_cons, List.map_nil, cellsY_snoc]
  rfl

set_option maxRecDepth 100000 in
set_option maxHeartbeats 8000000 in
theorem refLex_any (T : ByteArray) (hT : T.size ≤ 100000) (W : World) : Calls Try.prog 13 #[.string T] W (LexPost W T) := by
  obtain ⟨i1, hi1, hy0, hy1, hy2⟩ := info_parts info_token
  by_cases h2 : 20000 < T.size
  · have hd : decide ((20000 : Int) < (T.size : Int)) = true := decide_eq_true (by omega)
    go_enter Try.func13, Try.ntmps13
    go_wp2_with fail
    refine bodyPost_ret (results_tmp3 rfl _ _ _) rfl ?_
    exact ⟨Below.refl _ _, Or.inl ⟨h2, rfl⟩⟩
  have hd : decide ((20000 : Int) < (T.size : Int)) = false := decide_eq_false (by omega)
  have hG := Lib.hid (fun p hp w => gap_any T hT p hp w)
  have hN := Lib.hid (fun p hp w => next_any T hT p hp w)
  go_enter Try.func13, Try.ntmps13
  go_wp2_with fail
  refine (hG.out 0 (Nat.zero_le _) _).mono ?_
  rintro e w' ⟨p0, rfl, -, hp0, hs0, hw'⟩
  subst hw'
  have HS0 := Lib.hid (Lex.sofar_start hs0)
  clear hs0
  go_wp2_with fail
  go_loopw [6, 5] (fun i o wr => ∃ (q n : Nat) (ao : Option Addr) (cap : Nat), q ≤ T.size ∧ n ≤ 5000 ∧ i = .int .i64 q ∧ o = .slice ao n cap ∧ Hid (∃ pre, Lex.Sofar T q n pre ∧ Below W.heap.size W wr ∧ wr.ownsRow W.heap.size 31 3 (.slice ao n cap) n (cellsY (pre.map fun x => ((x.1 : Int), ⟨x.2.1.toArray⟩, x.2.2, 0))))) (fun i _ _ => T.size - (intOf i).toNat)
  case atStart => exact ⟨p0, 0, none, 0, hp0, by omega, rfl, rfl, Lib.hid ⟨[], HS0.out, Below.refl _ _, World.ownsRow_nil _ _ _ _⟩⟩
  case round =>
    obtain ⟨q, n, ao, cap, hq, hn, rfl, rfl, HI⟩ := hrel
    obtain ⟨pre, hI⟩ := HI.out
    have HI' := Lib.hid hI
    clear hI HI HS0
    by_cases hqT : q < T.size
    · have hd5 : decide ((q : Int) < (T.size : Int)) = true := decide_eq_true (by omega)
      have hst := Lex.sofar_step HI'.out.1 hqT
      have hNx := Lib.hid (fun w => hN.out q hqT w)
      cases ht : Lex.tok T[q] (T.data.toList.drop (q + 1)) with
      | err x =>
        have hx0 := Lex.tok_err ht
        rw [ht] at hst hNx
        have HE := Lib.hid (show LexPost W T (.returned (.tuple #[.slice none 0 0, .int .i64 (x : Nat), .int .i64 (q : Nat)])) = LexPost W T (.returned (.tuple #[.slice none 0 0, .int .i64 (x : Nat), .int .i64 (q : Nat)])) from rfl)
        have HE2 := Lib.hid (And.intro hst hx0)
        have hxe : ((x : Int) == 0) = false := by
          have : ((x : Int) == 0) = decide ((x : Int) = 0) := rfl
          rw [this, decide_eq_false]; omega
        unfold Lex.nextV at hNx
        clear hst ht hx0 HE
        go_wp2_with fail
        refine (hNx.out _).mono ?_
        rintro e w2 ⟨rfl, hb⟩
        have HB2 := Lib.hid (HI'.out.2.1.trans (hb.mono HI'.out.2.1.size))
        clear hb
        go_wp2_with fail
        refine bodyPost_ret (results_tmp3 rfl _ _ _) rfl ?_
        refine ⟨?_, Or.inr (Or.inl ⟨by omega, x, q, HE2.out.1, HE2.out.2, rfl⟩)⟩
        first
          | exact HB2.out
          | exact HB2.out.alloc HB2.out.size _
      | ok k t rest =>
        obtain ⟨r1, r2, r3⟩ := Lex.rest_drop hqT ht
        rw [ht] at hst hNx
        dsimp only at hst
        obtain ⟨E, HE⟩ : ∃ E, Hid (E = T.size - rest.length) := ⟨_, Lib.hid rfl⟩
        unfold Lex.nextV at hNx
        rw [← HE.out] at hst r1 r2
        dsimp only at hNx
        rw [← HE.out] at hNx
        obtain ⟨X, HX⟩ : ∃ X : ByteArray, Hid (X = ⟨t.toArray⟩) := ⟨_, Lib.hid rfl⟩
        rw [← HX.out] at hNx
        have hE : E ≤ T.size := by rw [HE.out]; omega
        have HSt := Lib.hid hst
        clear hst ht r1 r3 HE
        go_wp2_with fail
        refine (hNx.out _).mono ?_
        rintro e w2 ⟨rfl, hb⟩
        have HB2 := Lib.hid (HI'.out.2.1.trans (hb.mono HI'.out.2.1.size))
        have HR2 := Lib.hid (HI'.out.2.2.kept (below_grownBy hb none) (Classical.em _))
        clear hb
        by_cases h5 : n = 5000
        · have hd6 : ((n : Int) == 5000) = true := by rw [h5]; rfl
          have HL := Lib.hid (HSt.out.1 h5)
          clear h5 HSt
          go_wp2_with fail
          refine bodyPost_ret (results_tmp3 rfl _ _ _) rfl ?_
          refine ⟨?_, Or.inr (Or.inl ⟨by omega, 7, q, HL.out, by decide, rfl⟩)⟩
          first
            | exact HB2.out
            | exact HB2.out.alloc HB2.out.size _
        · have hd6 : ((n : Int) == 5000) = false := by
            have : ((n : Int) == 5000) = decide ((n : Int) = 5000) := rfl
            rw [this, decide_eq_false]; omega
          have HL := Lib.hid (HSt.out.2 h5)
          have hn5 : n < 5000 := by omega
          clear h5 HSt
          have hw2 := HB2.out.size
          have HNw : Hid (∀ (i : Nat) (u : Value), [Value.int .i64 (k : Int), Value.string X, Value.int .i64 (q : Int)][i]? = some u → ((w2.alloc (.cells #[.int .i64 (k : Int), .string X, .int .i64 (q : Int)] 31)).alloc (.cells #[.int .i64 (k : Int), .string X, .int .i64 (q : Int)] 31)).cell? ((⟨w2.heap.size + 1, 0, none⟩ : Addr).add i) = some u) := Lib.hid (by
            intro i u hu
            have e : (⟨w2.heap.size + 1, 0, none⟩ : Addr).add i = ⟨w2.heap.size + 1, i, none⟩ := by unfold Addr.add; split <;> simp_all
            rw [e, cell_alloc, if_pos (by rw [size_alloc])]
            simpa using hu)
          go_wp2_with (at_builtin; refine wpList_append_own _ rfl _ _ 23 rfl W.heap.size 31 i1 (.agg #[.int .i64 0, .string ⟨#[]⟩, .int .i64 0]) 3 32 Try.underlying23 hi1 hy0 hy1 hy2 rfl (by decide) _ _ _ rfl ((HR2.out.alloc _).alloc _) ⟨w2.heap.size + 1, 0, none⟩ 1 1 [.int .i64 (k : Int), .string X, .int .i64 (q : Int)] rfl rfl HNw.out (by simp [Value.oneCell']) (by unfold maxLen; omega) (by omega) (by rw [size_alloc, size_alloc]; omega) ?_; intro v' w3 hown hgrow _; obtain ⟨g', cap', rfl, _, _⟩ := hown.form (Nat.succ_pos _); have HW3 := Lib.hid hown; have HB3 : Hid (Below W.heap.size W w3) := Lib.hid (((HB2.out.alloc hw2 _).alloc (by rw [size_alloc]; omega) _).grown hgrow (by rw [size_alloc, size_alloc]; omega) (fun j e => (HR2.out.lt j e).1)); clear hown hgrow)
          refine (hG.out E hE _).mono ?_
          rintro e w' ⟨q', rfl, hq1, hq2, hs, hw'⟩
          subst hw'
          have HS := Lib.hid (HL.out q' hq1 hs)
          clear hs
          go_wp2_with fail
          go_round
          case rel => exact ⟨q', n + 1, some ⟨g', 0, none⟩, cap', hq2, by omega, rfl, rfl, Lib.hid ⟨pre ++ [(k, t, q)], HS.out, HB3.out, by rw [toks_snoc, ← HX.out]; exact HW3.out⟩⟩
          case measure => simp [intOf]; omega
    · have hd5 : decide ((q : Int) < (T.size : Int)) = false := decide_eq_false (by omega)
      have HL := Lib.hid (Lex.sofar_done HI'.out.1 hqT)
      go_wp2_with fail
      refine bodyPost_ret (results_tmp3 rfl _ _ _) rfl ?_
      refine ⟨HI'.out.2.1, Or.inr (Or.inr ⟨by omega, pre, ao, cap, HL.out, by rw [← HI'.out.1.1]; rfl, ?_⟩)⟩
      rw [← HI'.out.1.1]
      exact HI'.out.2.2

end Go.Proofs.Ytocbebkcpmodnaa
