/- The digits of a message with their indices, as a loop over an iterator gets them. -/
import Derived.Test.YtfnbdjjobndgfaaDoorSgnWalksA
import Derived.RangeFuncNested
import Derived.RangeFuncBound
import Derived.RangeFuncCalls
import Derived.RangeFuncLeaves
import Derived.RangeFuncBox
import Derived.RangeFuncWrites
import Derived.Shelf.Abstract
import Derived.Shelf.RegionOpen
import Derived.OwnWalkIn
import Derived.TacticsInMore
import Derived.LoopNIn
import Derived.LoopIn
namespace Go.Proofs.YtfnbdjjobndgfaaDoor
open Go.RowKit Go.Shelf

attribute [local go_sem] Oper.semAt_some

/-- What the iterator yields, so far. -/
def dpairs (m : ByteArray) (k : Nat) : List (Int × Int) := (List.range k).map fun q : Nat => ((q : Int), (Sgn.dAt m q : Int))
theorem dpairs_len (m : ByteArray) (k : Nat) : (dpairs m k).length = k := by simp [dpairs]
theorem dpairs_succ (m : ByteArray) (k : Nat) : dpairs m (k + 1) = dpairs m k ++ [((k : Int), (Sgn.dAt m k : Int))] := by
  unfold dpairs
  rw [List.range_succ, List.map_append]
  rfl
theorem dAt_low (m : ByteArray) (k : Nat) (h : k < (Sgn.dg m).size) : Sgn.dAt m k = Sgn.valN (Sgn.dg m)[k] := by
  have h1 : k < (Sgn.vals m).length := by rw [Sgn.vals_len]; rw [Sgn.dg_size] at h; exact h
  unfold Sgn.dAt Sgn.digitsV
  rw [List.getD_eq_getElem?_getD, List.getElem?_append_left h1, List.getElem?_eq_getElem h1]
  simp only [Option.getD_some, Sgn.vals, List.getElem_map]
  rfl
theorem two_at {l : List Nat} (hl : l.length = 16) (a b : Nat) : (l ++ [a, b]).getD 16 0 = a ∧ (l ++ [a, b]).getD 17 0 = b := by
  constructor <;> rw [List.getD_eq_getElem?_getD, List.getElem?_append_right (by omega), hl] <;> rfl
theorem dAt_16 (m : ByteArray) : Sgn.dAt m 16 = Sgn.restTo (Sgn.vals m) / 16 := (two_at (Sgn.vals_len m) _ _).1
theorem dAt_17 (m : ByteArray) : Sgn.dAt m 17 = Sgn.restTo (Sgn.vals m) % 16 := (two_at (Sgn.vals_len m) _ _).2
/-- The checksum so far. -/
def sumTo (m : ByteArray) (k : Nat) : Nat := Sgn.restTo ((Sgn.vals m).take k)
theorem sumTo_succ (m : ByteArray) (k : Nat) (h : k < (Sgn.dg m).size) : sumTo m (k + 1) = sumTo m k + (15 - Sgn.valN (Sgn.dg m)[k]) := by
  have h1 : k < (Sgn.vals m).length := by rw [Sgn.vals_len]; rw [Sgn.dg_size] at h; exact h
  unfold sumTo
  rw [List.take_succ_eq_append_getElem h1, Sgn.restTo_snoc]
  simp only [Sgn.vals, List.getElem_map]
  rfl
theorem sumTo_16 (m : ByteArray) : sumTo m 16 = Sgn.restTo (Sgn.vals m) := by
  unfold sumTo
  rw [List.take_of_length_le (by rw [Sgn.vals_len]; exact Nat.le_refl _)]
theorem sumTo_le (m : ByteArray) (k : Nat) (h : k ≤ 16) : sumTo m k ≤ 240 := by
  have h1 := Sgn.restTo_le ((Sgn.vals m).take k)
  have h2 : ((Sgn.vals m).take k).length ≤ 16 := by rw [List.length_take]; omega
  unfold sumTo
  omega

theorem and15 (n : Nat) (h : n ≤ 240) : bits BinOp.and IntKind.i64 (n : Int) 15 = (n : Int) % 16 := by
  have h1 : ∀ q : Fin 241, bits BinOp.and IntKind.i64 ((q.val : Nat) : Int) 15 = ((q.val : Nat) : Int) % 16 := by decide +kernel
  exact h1 ⟨n, by omega⟩

set_option maxHeartbeats 1000000 in
theorem sdigits_any (n : Nat) (m : ByteArray) (w : World) :
    CallsIn Fence.wide n Tryd.prog 30 #[.string m] w fun e w' => e = .returned (.func (.func 51) #[] #[.pointer (some ⟨w.heap.size, 0, none⟩)]) ∧ w' = w.alloc (.cells #[.string m] 9) := by
  refine callsIn_of_wp Tryd.func30 rfl trivial ?_ rfl
  simp only [Tryd.ntmps30, List.size_toArray, List.length_cons, List.length_nil, Nat.reduceAdd, Nat.reduceSub, Array.replicate_succ, Array.replicate_zero, List.push_toArray, List.append_toArray, List.nil_append, List.cons_append]
  gi_wp2
  go_ret
  exact ⟨rfl, rfl⟩

/-- What a round's yield leaves, as one way. -/
def YPost (J Jx : List (Int × Int) → World → Prop) (pre : List (Int × Int)) (x : Int × Int) (e : Ending) (W' : World) : Prop :=
  ∃ c : Bool, e = .returned (.bool c) ∧ ((c = true ∧ J (pre ++ [x]) W') ∨ (c = false ∧ Jx (pre ++ [x]) W'))

set_option maxRecDepth 100000 in
set_option maxHeartbeats 4000000 in
theorem digits1_in (n : Nat) (hn : 1 ≤ n) (l Bs : Nat) (m : ByteArray) (hm : m.size ≤ 140737488351232) (J Jx : List (Int × Int) → World → Prop) (Kp : World → World → Prop)
    (hY : ∀ pre x W, J pre W → pre.length < 18 → x = ((pre.length : Int), (Sgn.dAt m pre.length : Int)) → YieldAt Fence.wide (n - 1) Tryd.prog l #[.int .i64 x.1, .int .i64 x.2] W fun e W' =>
      (e = .returned (.bool true) ∧ J (pre ++ [x]) W' ∧ Kp W W') ∨ (e = .returned (.bool false) ∧ Jx (pre ++ [x]) W'))
    (hJ : ∀ W1 W2, J [] W1 → Below W1.heap.size W1 W2 → J [] W2)
    (W : World) (hBs : W.cell? ⟨Bs, 0, none⟩ = some (.string m)) (h0 : J [] W) :
    CallsIn Fence.wide n Tryd.prog 51 #[.func (.yield l) #[] #[], .pointer (some ⟨Bs, 0, none⟩)] W fun e W' => (∃ v, e = .returned v) ∧
      ((∃ ys, ys = dpairs m 18 ∧ J ys W') ∨ (∃ pre, (∃ k, k ≤ 18 ∧ pre = dpairs m k) ∧ Jx pre W')) := by
  have hro : Fence.wide.round = none := rfl
  have HS := Lib.hid (sumD_any m hm W)
  obtain ⟨s, Hs⟩ : ∃ s, Hid (s = Sgn.dg m) := ⟨_, Lib.hid rfl⟩
  have HS2 : Hid (Calls Tryd.prog 52 #[.string m] W fun e w' => e = .returned (.string s) ∧ Below W.heap.size W w') := Lib.hid (by rw [Hs.out]; exact HS.out)
  have hsz : s.size = 16 := by rw [Hs.out]; exact Sgn.dg_size _
  have HX : Hid (∀ k (h : k < s.size), Dig.isHex s[k] = true) := Lib.hid fun k h => by
    have h1 : ∀ c ∈ s.data.toList, Dig.isHex c = true := by rw [Hs.out]; exact (Sgn.isB_parts (Sgn.dg_is m)).2
    exact h1 s[k] (List.getElem_mem (l := s.data.toList) (n := k) h)
  have HV : Hid (∀ k (h : k < s.size), Sgn.dAt m k = Sgn.valN s[k] ∧ sumTo m (k + 1) = sumTo m k + (15 - Sgn.valN s[k])) := Lib.hid (by
    rw [Hs.out]
    exact fun k h => ⟨dAt_low m k h, sumTo_succ m k h⟩)
  have HJ := Lib.hid hJ
  have HYY : Hid (∀ pre x W, J pre W → pre.length < 18 → x = ((pre.length : Int), (Sgn.dAt m pre.length : Int)) → ∃ fn tmps assign body, (Instr.yield l #[.int .i64 x.1, .int .i64 x.2]).run Tryd.prog W = .ok (.round l fn tmps assign body) W ∧ RoundIn Fence.wide (n - 1) Tryd.prog l fn tmps assign body W (YPost J Jx pre x)) := Lib.hid fun pre x W h1 h2 h3 => by
    obtain ⟨fn, tmps, assign, body, hy, hR⟩ := hY pre x W h1 h2 h3
    refine ⟨fn, tmps, assign, body, hy, hR.mono fun e W' h => ?_⟩
    rcases h with ⟨rfl, h1, _⟩ | ⟨rfl, h1⟩
    · exact ⟨true, rfl, Or.inl ⟨rfl, h1⟩⟩
    · exact ⟨false, rfl, Or.inr ⟨rfl, h1⟩⟩
  clear HS hJ hY hm
  refine callsIn_of_wp Tryd.func51 rfl trivial ?_ hro
  simp only [Tryd.ntmps51, List.size_toArray, List.length_cons, List.length_nil, Nat.reduceAdd, Nat.reduceSub, Array.replicate_succ, Array.replicate_zero, List.push_toArray, List.append_toArray, List.nil_append, List.cons_append]
  gi_wp2_with (refine ⟨trivial, ?_⟩; gi_at_call 52; refine (callsIn_wide.2 HS2.out).mono ?_; rintro e w1 ⟨rfl, hb1⟩)
  have hj0 := Lib.hid (HJ.out _ _ h0 hb1)
  clear hb1 h0
  gi_loopw [4, 11] (fun c i wr => ∃ k : Nat, k ≤ 16 ∧ i = .int .i64 k ∧ c = .int .i64 (sumTo m k) ∧ Hid (J (dpairs m k) wr))
    (fun _ i _ => 16 - (intOf i).toNat)
  case atStart => exact ⟨0, by omega, rfl, rfl, hj0⟩
  case round =>
    obtain ⟨k, hk, rfl, rfl, HJk⟩ := hrel
    have hsl := sumTo_le m k hk
    by_cases hlt : k < 16
    · have hks : k < s.size := by omega
      have hlt' : (k : Int) < 16 := by omega
      have hx := HX.out k hks
      obtain ⟨v, Hv⟩ : ∃ v, Hid (v = Sgn.valN s[k]) := ⟨_, Lib.hid rfl⟩
      have hv15 : v ≤ 15 := by rw [Hv.out]; exact Sgn.valN_hex hx
      have HVal : Hid (∀ w, Calls Tryd.prog 53 #[.int .u8 s[k].toNat] w fun e w' => e = .returned (.int .i64 v) ∧ w = w') := Lib.hid fun w => by rw [Hv.out]; exact value_any s[k] hx w
      obtain ⟨sm, Hsm⟩ : ∃ x, Hid (x = sumTo m k) := ⟨_, Lib.hid rfl⟩
      rw [← Hsm.out] at hsl ⊢
      have HR := Lib.hid (HYY.out _ ((k : Int), (v : Int)) wr HJk.out (by rw [dpairs_len]; omega) (by rw [dpairs_len, (HV.out k hks).1, Hv.out]))
      obtain ⟨fn, tmps, assign, body, hy, hR⟩ := HR.out
      dsimp only at hy
      have HRR := Lib.hid hR
      clear hR HR hx
      gi_wp2_with (refine ⟨trivial, ?_⟩; gi_at_call 53; refine (callsIn_wide.2 (HVal.out _)).mono ?_; rintro e w3 ⟨rfl, rfl⟩)
      refine HRR.out.mono ?_
      rintro e W3 ⟨c, rfl, hG⟩
      have hS : Hid (dpairs m (k + 1) = dpairs m k ++ [((k : Int), (v : Int))]) := Lib.hid (by rw [dpairs_succ, (HV.out k hks).1, Hv.out])
      rcases hG with ⟨rfl, hJ3⟩ | ⟨rfl, hJx3⟩
      · have HJ3 := Lib.hid hJ3
        clear hJ3
        gi_wp2
        go_roundw
        case rel =>
          refine ⟨k + 1, by omega, by go_num, ?_, Lib.hid (by rw [hS.out]; exact HJ3.out)⟩
          rw [(HV.out k hks).2, ← Hv.out, ← Hsm.out]
          congr 1
          omega
        case measure => simp [intOf]; omega
      · have HJ3 := Lib.hid hJx3
        clear hJx3
        gi_wp2
        refine bodyPost_ret (results_none rfl _ _ _) rfl ?_
        exact ⟨⟨_, rfl⟩, .inr ⟨_, ⟨k + 1, by omega, hS.out.symm⟩, HJ3.out⟩⟩
    · obtain rfl : k = 16 := by omega
      have hd16 : Hid (Sgn.dAt m 16 = sumTo m 16 / 16 ∧ Sgn.dAt m 17 = sumTo m 16 % 16) := Lib.hid (by rw [sumTo_16]; exact ⟨dAt_16 m, dAt_17 m⟩)
      obtain ⟨sm, Hsm⟩ : ∃ x, Hid (x = sumTo m 16) := ⟨_, Lib.hid rfl⟩
      rw [← Hsm.out] at hsl ⊢
      have hS1 : Hid (dpairs m 17 = dpairs m 16 ++ [((16 : Int), (sm : Int) / 16)]) := Lib.hid (by rw [dpairs_succ, hd16.out.1, ← Hsm.out]; congr 1)
      have hS2 : Hid (dpairs m 18 = dpairs m 17 ++ [((17 : Int), (sm : Int) % 16)]) := Lib.hid (by rw [dpairs_succ, hd16.out.2, ← Hsm.out]; congr 1)
      have HR := Lib.hid (HYY.out _ ((16 : Int), (sm : Int) / 16) wr HJk.out (by rw [dpairs_len]; decide) (by rw [dpairs_len, hd16.out.1, ← Hsm.out]; congr 1))
      obtain ⟨fn, tmps, assign, body, hy, hR⟩ := HR.out
      dsimp only at hy
      have HRR := Lib.hid hR
      clear hR HR
      gi_wp2
      refine HRR.out.mono ?_
      rintro e W3 ⟨c, rfl, hG⟩
      rcases hG with ⟨rfl, hJ3⟩ | ⟨rfl, hJx3⟩
      · have HJ3 := Lib.hid hJ3
        clear hJ3
        have HR := Lib.hid (HYY.out _ ((17 : Int), bits BinOp.and IntKind.i64 (sm : Int) 15) W3 HJ3.out (by rw [← hS1.out, dpairs_len]; decide) (by rw [← hS1.out, dpairs_len, hd16.out.2, ← Hsm.out, and15 sm hsl]; congr 1))
        obtain ⟨fn2, tmps2, assign2, body2, hy2, hR2⟩ := HR.out
        dsimp only at hy2
        have HRR2 := Lib.hid hR2
        clear hR2 HR
        gi_wp2
        refine HRR2.out.mono ?_
        rintro e W4 ⟨c, rfl, hG⟩
        have hS3 : Hid (dpairs m 18 = dpairs m 16 ++ [((16 : Int), (sm : Int) / 16)] ++ [((17 : Int), bits BinOp.and IntKind.i64 (sm : Int) 15)]) := Lib.hid (by rw [hS2.out, hS1.out, and15 sm hsl])
        rcases hG with ⟨rfl, hJ4⟩ | ⟨rfl, hJx4⟩
        · have HJ4 := Lib.hid hJ4
          clear hJ4
          gi_wp2
          go_end0
          exact ⟨⟨_, rfl⟩, .inl ⟨_, rfl, by rw [hS3.out]; exact HJ4.out⟩⟩
        · have HJ4 := Lib.hid hJx4
          clear hJx4
          gi_wp2
          go_end0
          exact ⟨⟨_, rfl⟩, .inr ⟨_, ⟨18, by omega, hS3.out.symm⟩, HJ4.out⟩⟩
      · have HJ3 := Lib.hid hJx3
        clear hJx3
        gi_wp2
        refine ⟨fun f h => (by cases h), ?_⟩
        gi_wp2
        go_end0
        exact ⟨⟨_, rfl⟩, .inr ⟨_, ⟨17, by omega, hS1.out.symm⟩, HJ3.out⟩⟩

end Go.Proofs.YtfnbdjjobndgfaaDoor
