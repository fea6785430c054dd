/- The pairs of neighbouring limits, as a loop over an iterator gets them. -/
import Derived.Test.YtbiibpjjjjedgaaBase
import Derived.Test.YtbiibpjjjjedgaaMigMath
import Derived.RangeFuncNested
import Derived.RangeFuncBound
import Derived.RangeFuncCalls
import Derived.RangeFuncLeaves
import Derived.RangeFuncBox
import Derived.Shelf.Abstract
import Derived.Shelf.RegionOpen
import Derived.OwnWalkIn
import Derived.TacticsInMore
import Derived.LoopNIn
import Derived.LoopIn
import Derived.Test.YtbiibpjjjjedgaaStillIn
namespace Go.Proofs.Ytbiibpjjjjedgaa
open Go.RowKit Go.Shelf

attribute [local go_sem] Oper.semAt_some

/-- What a round keeps: what lay below n₀, and the cell that holds the list. -/
def KpP (n₀ Bs : Nat) (A B : World) : Prop := Below n₀ A B ∧ B.cell? ⟨Bs, 0, none⟩ = A.cell? ⟨Bs, 0, none⟩
theorem KpP.trans {n₀ Bs : Nat} {A B C : World} (h : KpP n₀ Bs A B) (k : KpP n₀ Bs B C) : KpP n₀ Bs A C := ⟨h.1.trans k.1, k.2.trans h.2⟩

set_option maxHeartbeats 1000000 in
theorem pairs_any (F : Fence) (n : Nat) (hf : F.fn 36) (hro : F.round = none) (a : Option Addr) (len cap : Nat) (w : World) :
    CallsIn F n Try.prog 36 #[.slice a len cap] w fun e w' => e = .returned (.func (.func 48) #[] #[.pointer (some ⟨w.heap.size, 0, none⟩)]) ∧ w' = w.alloc (.cells #[.slice a len cap] 24) := by
  refine callsIn_of_wp Try.func36 rfl hf ?_ hro
  simp only [Try.ntmps36, List.size_toArray, List.length_cons, List.length_nil, Nat.reduceAdd, Nat.reduceSub, Array.replicate_succ, Array.replicate_zero, List.push_toArray, List.append_toArray, List.nil_append, List.cons_append]
  gi_wp2
  go_ret
  exact ⟨rfl, rfl⟩

/-- What a round's yield leaves, as one way. -/
def YPost (J Jx : List (Int × Int) → World → Prop) (n₀ Bs : Nat) (pre : List (Int × Int)) (x : Int × Int) (W : World) (e : Ending) (W' : World) : Prop :=
  ∃ c : Bool, e = .returned (.bool c) ∧ ((c = true ∧ J (pre ++ [x]) W' ∧ KpP n₀ Bs W W') ∨ (c = false ∧ Jx (pre ++ [x]) W'))
theorem yPost_of {J Jx : List (Int × Int) → World → Prop} {n₀ Bs : Nat} {pre : List (Int × Int)} {x : Int × Int} {W : World} (e : Ending) (W' : World)
    (h : (e = .returned (.bool true) ∧ J (pre ++ [x]) W' ∧ KpP n₀ Bs W W') ∨ (e = .returned (.bool false) ∧ Jx (pre ++ [x]) W')) : YPost J Jx n₀ Bs pre x W e W' := by
  rcases h with ⟨rfl, h1, h2⟩ | ⟨rfl, h1⟩
  · exact ⟨true, rfl, Or.inl ⟨rfl, h1, h2⟩⟩
  · exact ⟨false, rfl, Or.inr ⟨rfl, h1⟩⟩

set_option maxRecDepth 100000 in
set_option maxHeartbeats 4000000 in
theorem pairs1_in (F : Fence) (n : Nat) (hf : F.fn 48) (hro : F.round = none) (hn : 1 ≤ n) (l Bs n₀ b off len cap : Nat) (zs : List Int) (hlen : 1 ≤ len) (hreach : len ≤ 1000) (hb : b < n₀) (J Jx : List (Int × Int) → World → Prop)
    (hY : ∀ pre x W, J pre W → pre.length < len - 1 → YieldAt F (n - 1) Try.prog l #[.int .i64 x.1, .int .i64 x.2] W fun e W' =>
      (e = .returned (.bool true) ∧ J (pre ++ [x]) W' ∧ KpP n₀ Bs W W') ∨ (e = .returned (.bool false) ∧ Jx (pre ++ [x]) W'))
    (hJd : ∀ pre W, J pre W → J pre W.drew)
    (W : World) (hBs : W.cell? ⟨Bs, 0, none⟩ = some (.slice (some ⟨b, off, none⟩) len cap)) (hc : ∀ j, j < len → W.cell? ⟨b, off + j, none⟩ = some (.int .i64 (zs[j]?.getD 0))) (h0 : J [] W) :
    CallsIn F n Try.prog 48 #[.func (.yield l) #[] #[], .pointer (some ⟨Bs, 0, none⟩)] W fun e W' => (∃ v, e = .returned v) ∧
      ((∃ ys, ys = Mig.pairs zs (len - 1) ∧ J ys W') ∨ (∃ pre, (∃ k, k ≤ len - 1 ∧ pre = Mig.pairs zs k) ∧ Jx pre W')) := by
  have hmx : Try.prog.follows .mixedOrders = true := by kernel_rfl
  refine callsIn_of_wp Try.func48 rfl hf ?_ hro
  simp only [Try.ntmps48, List.size_toArray, List.length_cons, List.length_nil, Nat.reduceAdd, Nat.reduceSub, Array.replicate_succ, Array.replicate_zero, List.push_toArray, List.append_toArray, List.nil_append, List.cons_append]
  gi_wp2
  gi_loopw [3] (fun i wr => ∃ k : Nat, k + 1 ≤ len ∧ i = .int .i64 ((k + 1 : Nat) : Int) ∧ J (Mig.pairs zs k) wr ∧ KpP n₀ Bs W wr)
    (fun i _ => len - (intOf i).toNat)
  case atStart => exact ⟨0, by omega, rfl, h0, Below.refl _ _, rfl⟩
  case round =>
    obtain ⟨k, hk, rfl, hJs, hnx, hbs⟩ := hrel
    have hB := hbs.trans hBs
    have hcx : k + 1 < len → wr.cell? ⟨b, off + k, none⟩ = some (.int .i64 (zs[k]?.getD 0)) := fun h => (hnx.cell (p := ⟨b, off + k, none⟩) hb).trans (hc k (by omega))
    have hcy : k + 1 < len → wr.cell? ⟨b, off + (k + 1), none⟩ = some (.int .i64 (zs[k + 1]?.getD 0)) := fun h => (hnx.cell (p := ⟨b, off + (k + 1), none⟩) hb).trans (hc (k + 1) h)
    by_cases hlt : k + 1 < len
    · obtain ⟨fn, tmps, assign, body, hy, hR⟩ := hY _ (zs[k]?.getD 0, zs[k + 1]?.getD 0) wr.drew (hJd _ _ hJs) (by rw [Mig.pairs_length]; omega)
      dsimp only at hy
      have hcx' := hcx hlt
      have hcy' := hcy hlt
      clear hcx hcy
      have hR' := hR.mono (R' := YPost J Jx n₀ Bs (Mig.pairs zs k) (zs[k]?.getD 0, zs[k + 1]?.getD 0) wr.drew) (yPost_of)
      clear hR
      have q1 : (0 : Int) ≤ (k : Int) := by omega
      have q2 : (k : Int) < len := by omega
      have q3 : (k : Int) + 1 < len := by omega
      have q4 : (0 : Int) ≤ (k : Int) + 1 := by omega
      have q5 : ((k : Int) + 1).toNat = k + 1 := by omega
      have q6 : IntKind.i64.wrap (k : Int) = (k : Int) := by rw [IntKind.wrap_i64]; omega
      gi_wp2
      refine wpIn_region_still_tail 10 hmx (by kernel_rfl) (by kernel_rfl) ?_
      simp only [List.take_succ_cons, List.take_zero, List.drop_succ_cons, List.drop_zero]
      repeat still_step
      refine wpStill_nil ?_
      clear q1 q2 q3 q4 q5 q6
      gi_wp2
      refine hR'.mono ?_
      rintro e W3 ⟨c, rfl, hG⟩
      all_goals
        rcases hG with ⟨rfl, hJ3, hk3⟩ | ⟨rfl, hJx3⟩
        · gi_wp2
          go_roundw
          case rel => exact ⟨k + 1, by omega, by simp, by rw [Mig.pairs_succ]; exact hJ3, KpP.trans ⟨hnx, hbs⟩ (KpP.trans ⟨(Below.refl _ _).drew, rfl⟩ hk3)⟩
          case measure => simp [intOf]; omega
        · gi_wp2
          refine bodyPost_ret (results_none rfl _ _ _) rfl ?_
          exact ⟨⟨_, rfl⟩, .inr ⟨_, ⟨k + 1, by omega, (Mig.pairs_succ _ _).symm⟩, hJx3⟩⟩
    · obtain rfl : k + 1 = len := by omega
      gi_wp2
      go_end0
      exact ⟨⟨_, rfl⟩, .inl ⟨_, rfl, hJs⟩⟩

end Go.Proofs.Ytbiibpjjjjedgaa
