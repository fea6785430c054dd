/- The tokens of a text, as a loop over the reader's iterator gets them. -/
import Derived.Test.YtocbebkcpmodnaaLexToken
import Derived.Test.YtocbebkcpmodnaaRangeMut
import Derived.RangeFuncCalls
import Derived.Shelf.Abstract
import Derived.Shelf.RegionOpen
import Derived.OwnWalkIn
import Derived.TacticsInMore
import Derived.LoopNIn
import Derived.LoopIn
namespace Go.Proofs.Ytocbebkcpmodnaa
open Go.RowKit Go.Shelf

attribute [local go_sem] Oper.semAt_some

/-- What is yielded: kind, text, offset, error. -/
abbrev Yd := Int × ByteArray × Nat × Nat
def encY (x : Yd) : Array Value := #[.agg #[.int .i64 x.1, .string x.2.1, .int .i64 x.2.2.1], .int .i64 x.2.2.2]

/-- These tokens have been taken, and the reader stands at q. -/
inductive Run (T : ByteArray) : List Yd → Nat → Prop
  | nil : Run T [] 0
  | snoc {xs : List Yd} {q q' n : Nat} {k : Nat} {t : List UInt8} (h : Run T xs q) (hq : q' < T.size) (hs : T.data.toList.drop q' = Lex.skip false (T.data.toList.drop q)) (ht : Lex.tok T[q'] (T.data.toList.drop (q' + 1)) = .ok k t (T.data.toList.drop n)) (hn : q' < n) (hT : n ≤ T.size) : Run T (xs ++ [((k : Int), ⟨t.toArray⟩, q', 0)]) n
/-- The next token has an error. -/
def Wrong (T : ByteArray) (xs : List Yd) (x : Yd) : Prop := ∃ q q' e, ∃ hq : q' < T.size, Run T xs q ∧ T.data.toList.drop q' = Lex.skip false (T.data.toList.drop q) ∧ Lex.tok T[q'] (T.data.toList.drop (q' + 1)) = .err e ∧ e ≠ 0 ∧ x.2.2.1 = q' ∧ x.2.2.2 = e
def Over (T : ByteArray) (xs : List Yd) : Prop := (∃ q, Run T xs q ∧ Lex.skip false (T.data.toList.drop q) = []) ∨ ∃ pre x, xs = pre ++ [x] ∧ Wrong T pre x
def Cut (T : ByteArray) (xs : List Yd) : Prop := (∃ q, Run T xs q) ∨ ∃ pre x, xs = pre ++ [x] ∧ Wrong T pre x

/-- The reader and the variable that leads to it are as they were. -/
def KpR (b br : Nat) (A B : World) : Prop := A.heap.size ≤ B.heap.size ∧ B.heap[b]? = A.heap[b]? ∧ B.heap[br]? = A.heap[br]?

/-- A token, as what is to be yielded. -/
theorem token_step {W w' : World} {b : Nat} {T : ByteArray} {q p : Nat} {hq : q < T.size} {e : Ending} {pre : List Yd} (h : TokenPost W b T q hq e w') (hr : Run T pre p) (hs : T.data.toList.drop q = Lex.skip false (T.data.toList.drop p)) :
    ∃ (v0 : Int) (v1 : ByteArray) (er n : Nat), e = .returned (.tuple #[.agg #[.int .i64 v0, .string v1, .int .i64 q], .int .i64 er]) ∧ Rd w' b T n ∧ Mv b W w' ∧ ((er = 0 ∧ Run T (pre ++ [(v0, v1, q, er)]) n ∧ q < n ∧ n ≤ T.size) ∨ (er ≠ 0 ∧ Wrong T pre (v0, v1, q, er))) := by
  rcases h with ⟨k, t, n, h1, h2, h3, rfl, h4, h5⟩ | ⟨x, v0, v1, n, h1, h2, rfl, h4, h5⟩
  · exact ⟨k, ⟨t.toArray⟩, 0, n, rfl, h4, h5, Or.inl ⟨rfl, .snoc hr hq hs h1 h2 h3, h2, h3⟩⟩
  · exact ⟨v0, v1, x, n, rfl, h4, h5, Or.inr ⟨h2, p, q, x, hq, hr, hs, h1, h2, rfl, rfl⟩⟩

set_option maxRecDepth 100000 in
set_option maxHeartbeats 4000000 in
theorem tokens_seq (n : Nat) (hn : 1 ≤ n) (b br : Nat) (hbr : b ≠ br) (T : ByteArray) (hT : T.size ≤ 1407374883512) (w : World) (hR : Rd w b T 0) (hB : w.cell? ⟨br, 0, none⟩ = some (.pointer (some ⟨b, 0, none⟩))) :
    SeqMut Fence.wide n Try.prog b 34 #[.pointer (some ⟨br, 0, none⟩)] encY (KpR b br) (Over T) (Cut T) w := by
  intro l J Jx W hW hJ hJx hY h0
  have hro : Fence.wide.round = none := rfl
  have HJ := Lib.hid hJ
  have HJx := Lib.hid hJx
  have HR0 := Lib.hid (hR.below hW)
  have HB0 : Hid (W.cell? ⟨br, 0, none⟩ = some (.pointer (some ⟨b, 0, none⟩))) := Lib.hid ((hW.cell (p := ⟨br, 0, none⟩) (lt_of_cell hB)).trans hB)
  have HYY : Hid (∀ pre x A, J pre A → ∃ fn tmps assign body, (Instr.yield l (encY x)).run Try.prog A = .ok (.round l fn tmps assign body) A ∧ RoundIn Fence.wide (n - 1) Try.prog l fn tmps assign body A (fun e B => ∃ c : Bool, e = .returned (.bool c) ∧ ((c = true ∧ J (pre ++ [x]) B ∧ KpR b br A B) ∨ (c = false ∧ Jx (pre ++ [x]) B)))) := Lib.hid fun pre x A h1 => by
    obtain ⟨fn, tmps, assign, body, hy, hR⟩ := hY pre x A h1
    refine ⟨fn, tmps, assign, body, hy, hR.mono fun e W' h => ?_⟩
    rcases h with ⟨rfl, h1, h2⟩ | ⟨rfl, h1⟩
    · exact ⟨true, rfl, Or.inl ⟨rfl, h1, h2⟩⟩
    · exact ⟨false, rfl, Or.inr ⟨rfl, h1⟩⟩
  have H0 := Lib.hid h0
  clear hJ hJx hY h0 hR hB hW
  refine callsIn_of_wp Try.func34 rfl trivial ?_ hro
  simp only [Try.ntmps34, List.size_toArray, List.length_cons, List.length_nil, Nat.reduceAdd, Nat.reduceSub, Array.replicate_succ, Array.replicate_zero, List.push_toArray, List.append_toArray, List.nil_append, List.cons_append]
  have kb := HB0.out
  gi_wp2_with fail
  refine ⟨trivial, ?_⟩
  refine (callsIn_wide.2 (rskip_any b T 0 (Nat.zero_le _) (by omega) W HR0.out)).mono ?_
  rintro e w1 ⟨q0, hq0, -, hs0, rfl, hR1, hM1⟩
  have HI : Hid (Rd w1 b T q0 ∧ w1.cell? ⟨br, 0, none⟩ = some (.pointer (some ⟨b, 0, none⟩)) ∧ J [] w1 ∧ Run T [] 0 ∧ T.data.toList.drop q0 = Lex.skip false (T.data.toList.drop 0)) := Lib.hid ⟨hR1, hM1.cell kb (fun h => hbr h.symm), HJ.out _ _ _ H0.out hM1, .nil, hs0⟩
  clear hR1 hM1 hs0 kb
  gi_wp2_with fail
  gi_loopw [] (fun wr => ∃ q, q ≤ T.size ∧ Hid (∃ pre p, Rd wr b T q ∧ wr.cell? ⟨br, 0, none⟩ = some (.pointer (some ⟨b, 0, none⟩)) ∧ J pre wr ∧ Run T pre p ∧ T.data.toList.drop q = Lex.skip false (T.data.toList.drop p))) (fun wr => T.size - posOf wr b)
  case atStart => exact ⟨q0, hq0, Lib.hid ⟨[], 0, HI.out⟩⟩
  case round =>
    obtain ⟨q, hq, HIr⟩ := hrel
    obtain ⟨pre, p, h1, h2, h3, h4, h5⟩ := HIr.out
    have k0 := h1.text
    have k1 := h1.pos
    have hlt := h1.lt
    have hltb := lt_of_cell h2
    have g0 : ∀ X : Grown wr, X.w.cell? ⟨b, 0, none⟩ = some (.string T) := fun X => by rw [X.cell hlt]; exact k0
    have g1 : ∀ X : Grown wr, X.w.cell? ⟨b, 1, none⟩ = some (.int .i64 q) := fun X => by rw [X.cell hlt]; exact k1
    have g2 : ∀ X : Grown wr, X.w.cell? ⟨br, 0, none⟩ = some (.pointer (some ⟨b, 0, none⟩)) := fun X => by rw [X.cell hltb]; exact h2
    have H1 := Lib.hid h1
    have H2 := Lib.hid h2
    have H3 := Lib.hid h3
    have H4 := Lib.hid h4
    have H5 := Lib.hid h5
    clear h1 h3 h4 h5
    by_cases hqT : q < T.size
    · have hd : decide ((q : Int) < (T.size : Int)) = true := decide_eq_true (by omega)
      gi_wp2_with fail
      refine wpIn_wide.2 ?_
      refine wp_region_grown (by kernel_rfl) (by kernel_rfl) ?_
      repeat (go_big_quiet_step (fail))
      refine wpQuiet_nil ?_
      rintro _ ⟨X, rfl⟩
      obtain ⟨X', HX'⟩ : ∃ x, Hid (x = X.w) := ⟨_, Lib.hid rfl⟩
      have HX : Hid (Rd X' b T q ∧ X'.cell? ⟨br, 0, none⟩ = some (.pointer (some ⟨b, 0, none⟩)) ∧ J pre X') := Lib.hid (by
        rw [HX'.out]
        exact ⟨H1.out.below X.below, (X.below.cell (p := ⟨br, 0, none⟩) hltb).trans h2, HJ.out _ _ _ H3.out (Only.of_below _ X.below)⟩)
      rw [← HX'.out]
      clear k0 k1 g0 g1 g2 h2 hlt hltb
      have kb := HX.out.2.1
      gi_wp2_with fail
      refine ⟨trivial, ?_⟩
      refine (callsIn_wide.2 (token_any b T q hqT hT X' HX.out.1)).mono ?_
      rintro e w2 hp
      obtain ⟨v0, v1, er, nx, rfl, r1, r2, r3⟩ := token_step hp H4.out H5.out
      have HT := Lib.hid r3
      have HY2 : Hid (Rd w2 b T nx ∧ w2.cell? ⟨br, 0, none⟩ = some (.pointer (some ⟨b, 0, none⟩)) ∧ J pre w2) := Lib.hid ⟨r1, r2.cell kb (fun h => hbr h.symm), HJ.out _ _ _ HX.out.2.2 r2⟩
      have HSz := Lib.hid r2.size
      clear hp r1 r2 r3 kb
      have hb3 : Below w2.heap.size w2 (w2.alloc (.cells #[.int .i64 v0, .string v1, .int .i64 q] 31)) := (Below.refl _ _).alloc (Nat.le_refl _) _
      obtain ⟨fn, tmps, assign, body, hy, hR⟩ := HYY.out pre (v0, v1, q, er) (w2.alloc (.cells #[.int .i64 v0, .string v1, .int .i64 q] 31)) (HJ.out _ _ _ HY2.out.2.2 (Only.of_below _ hb3))
      have HR3 := Lib.hid (And.intro (HY2.out.1.below hb3) ((hb3.cell (p := ⟨br, 0, none⟩) (lt_of_cell HY2.out.2.1)).trans HY2.out.2.1))
      unfold encY at hy
      dsimp only at hy
      have HRR := Lib.hid hR
      clear hR hb3
      gi_wp2_with fail
      refine HRR.out.mono ?_
      rintro e W4 ⟨c, rfl, hG⟩
      rcases hG with ⟨rfl, hJ4, hk1, hk2, hk3⟩ | ⟨rfl, hJx4⟩
      · have HJ4 := Lib.hid hJ4
        have HR4 : Hid (Rd W4 b T nx ∧ W4.cell? ⟨br, 0, none⟩ = some (.pointer (some ⟨b, 0, none⟩))) := Lib.hid ⟨hk2.trans HR3.out.1, (World.cell?_of_block hk3).trans HR3.out.2⟩
        clear hJ4 hk1 hk2 hk3 hy
        rcases HT.out with ⟨h0, t1, t2, t3⟩ | ⟨h0, t1⟩
        · have HT1 := Lib.hid t1
          have he : ((er : Int) == 0) = true := by rw [h0]; rfl
          have kb := HR4.out.2
          clear t1 HT
          subst h0
          gi_wp2_with fail
          refine ⟨trivial, ?_⟩
          refine (callsIn_wide.2 (rskip_any b T nx t3 (by omega) W4 HR4.out.1)).mono ?_
          rintro e w5 ⟨q1, hq1, hle, hs1, rfl, hR5, hM5⟩
          have HN : Hid (∃ pre p, Rd w5 b T q1 ∧ w5.cell? ⟨br, 0, none⟩ = some (.pointer (some ⟨b, 0, none⟩)) ∧ J pre w5 ∧ Run T pre p ∧ T.data.toList.drop q1 = Lex.skip false (T.data.toList.drop p)) := Lib.hid ⟨_, nx, hR5, hM5.cell kb (fun h => hbr h.symm), HJ.out _ _ _ HJ4.out hM5, HT1.out, hs1⟩
          have HP := Lib.hid hR5
          clear hR5 hM5 hs1 kb
          gi_wp2_with fail
          go_roundw
          case rel => exact ⟨q1, hq1, HN⟩
          case measure => rw [HP.out.posOf, H1.out.posOf]; omega
        · have HT1 := Lib.hid t1
          have he : ((er : Int) == 0) = false := by
            have : ((er : Int) == 0) = decide ((er : Int) = 0) := rfl
            rw [this, decide_eq_false]; omega
          clear t1 HT
          gi_wp2_with fail
          refine bodyPost_ret (results_none rfl _ _ _) rfl ?_
          exact ⟨⟨_, rfl⟩, .inl ⟨_, .inr ⟨pre, _, rfl, HT1.out⟩, HJ4.out⟩⟩
      · have HJ4 := Lib.hid hJx4
        have HC : Hid (Cut T (pre ++ [(v0, v1, q, er)])) := Lib.hid (by
          rcases HT.out with ⟨_, t1, _, _⟩ | ⟨_, t1⟩
          · exact .inl ⟨nx, t1⟩
          · exact .inr ⟨pre, _, rfl, t1⟩)
        clear hJx4 hy
        gi_wp2_with fail
        refine bodyPost_ret (results_none rfl _ _ _) rfl ?_
        exact ⟨⟨_, rfl⟩, .inr ⟨_, HC.out, HJ4.out⟩⟩
    · have hd : decide ((q : Int) < (T.size : Int)) = false := decide_eq_false (by omega)
      gi_wp2_with fail
      refine wpIn_wide.2 ?_
      refine wp_region_grown (by kernel_rfl) (by kernel_rfl) ?_
      repeat (go_big_quiet_step (fail))
      refine wpQuiet_nil ?_
      rintro _ ⟨X, rfl⟩
      have hJX := HJ.out _ _ _ H3.out (Only.of_below (fun x => x = b) X.below)
      gi_wp2_with fail
      go_end0
      refine ⟨⟨_, rfl⟩, .inl ⟨pre, .inl ⟨p, H4.out, ?_⟩, hJX⟩⟩
      rw [← H5.out, List.drop_eq_nil_of_le (show T.data.toList.length ≤ q by show T.size ≤ q; omega)]

end Go.Proofs.Ytocbebkcpmodnaa
