/- The law's of: for the sets of a union-find it says for each index the number of its set. -/
import Derived.Test.YtolnpimnoajcaaaLnkOfM
import Derived.Test.YtolnpimnoajcaaaLnkColl
import Derived.Deep.CutRange
import Derived.Deep.CutBlock
namespace Go.Proofs.Ytolnpimnoajcaaa
open Go.RowKit
open Lnk

theorem pre_sum (gs : List (List Nat)) (i : Nat) (h : i < gs.length) : ((gs.take (i + 1)).map List.length).sum = ((gs.take i).map List.length).sum + gs[i].length := by
  rw [← List.take_append_getElem h, List.map_append, List.sum_append]; simp
theorem pre_le (gs : List (List Nat)) (i : Nat) : ((gs.take i).map List.length).sum ≤ (gs.map List.length).sum := by
  have e := congrArg (fun l => (l.map List.length).sum) (List.take_append_drop i gs)
  simp only [List.map_append, List.sum_append] at e
  omega
theorem results_two {P : Program} {fn : Func} {i j : Nat} (h : fn.results = #[.tmp i, .tmp j]) (tmps : Array Value) (w : World) : (results fn tmps).run P w = .ok (.tuple #[tmps.getD i undef, tmps.getD j undef]) w := by
  simp only [results, h, List.mapM_toArray, List.mapM_cons, List.mapM_nil]
  rfl
/-- A set among others in memory, and its indices: they stay in grown worlds. -/
theorem Sets.ats {B : Nat} {W : World} {ao : Option Addr} {N c : Nat} {gs : List (List Nat)} (h : Sets B W (.slice ao N c) gs) {k : Nat} (hk : k < gs.length) (h0 : 0 < gs[k].length) :
    ∃ gb g cp, ao = some ⟨gb, 0, none⟩ ∧ ∀ w, Below W.heap.size W w → w.cell? ⟨gb, k, none⟩ = some (.slice (some ⟨g, 0, none⟩) gs[k].length cp) ∧ ∀ j (hj : j < gs[k].length), w.cell? ⟨g, j, none⟩ = some (.int .i64 (gs[k][j] : Nat)) := by
  obtain ⟨vs, h1, h2, h3⟩ := h.ex
  obtain ⟨gb, cap, e, _, ⟨cur, hw⟩, hc⟩ := owns_whole_put h1 hk
  obtain ⟨u, q1, q2⟩ := h2 k hk
  injection e with e _ _
  obtain ⟨g, cp, rfl, _, ⟨cur2, hw2⟩, hc2⟩ := owns_whole_put q2 h0
  refine ⟨gb, g, cp, e, fun w hb => ⟨(cellB hb hw.lt).trans (hc k _ q1), fun j hj => (cellB hb hw2.lt).trans (hc2 j _ ?_)⟩⟩
  unfold natC
  rw [List.getElem?_map, List.getElem?_eq_getElem hj]
  rfl

set_option maxRecDepth 100000 in
set_option maxHeartbeats 8000000 in
theorem of_any (n : Nat) (hn : n ≤ 1000000) (r : Nat → Nat) (B : Nat) (W : World) (sv : Value) (hs : Sets B W sv (groups r n)) :
    Calls Try.prog 20 #[.int .i64 n, sv] W fun e w' => ∃ g, e = .returned (.tuple #[.slice (some ⟨g, 0, none⟩) n n, .bool true]) ∧ W.heap.size ≤ g ∧ IsP w' g n (num r n) ∧ Below W.heap.size W w' := by
  obtain ⟨ao, cN, rfl⟩ : ∃ ao c, sv = .slice ao (groups r n).length c := by obtain ⟨vs, h1, _⟩ := hs.ex; exact owns_shapeM h1
  have HS := Lib.hid hs
  clear hs
  obtain ⟨gs, Hgs⟩ : ∃ x, Hid (x = groups r n) := ⟨_, Lib.hid rfl⟩
  obtain ⟨N, HN⟩ : ∃ x, Hid (x = gs.length) := ⟨_, Lib.hid rfl⟩
  rw [← Hgs.out] at HS
  rw [← HN.out] at HS
  rw [← Hgs.out, ← HN.out]
  have hNn : N ≤ n := by rw [HN.out, Hgs.out, groups_len]; exact reps_len r n
  have hmk := run_make_row' (P := Try.prog) 29 3 (.int .i64 0) 8 Try.underlying29 info_intL rfl .i64 .i64 n (by omega) (by omega) W
  rw [made_pC] at hmk
  obtain ⟨pb, Hpb⟩ : ∃ g, Hid (g = W.heap.size) := ⟨_, Lib.hid rfl⟩
  obtain ⟨V, HV⟩ : ∃ w, Hid (w = W.alloc (.cells (pC n fun _ => 0).toArray 3)) := ⟨_, Lib.hid rfl⟩
  have HB : Hid (Below W.heap.size W V) := Lib.hid (by rw [HV.out]; exact (Below.refl _ _).alloc (Nat.le_refl _) _)
  have HP0 : Hid (IsP V pb n (seenF r n 0 0)) := Lib.hid (by rw [HV.out, Hpb.out]; exact IsP.congr (Whole.new _ _ _) (fun j _ => (seen_start j).symm))
  go_enter Try.func20, Try.ntmps20
  go_wp2_with fail
  rw [← HV.out, ← Hpb.out]
  clear hmk
  go_loopw [7, 8] (fun a i wr => ∃ k c : Nat, k ≤ N ∧ c ≤ n ∧ a = .int .i64 c ∧ i = .int .i64 k ∧ Hid (c = ((gs.take k).map List.length).sum ∧ Below W.heap.size W wr ∧ IsP wr pb n (seenF r n k 0))) (fun _ i _ => N - (intOf i).toNat)
  case atStart => exact ⟨0, 0, Nat.zero_le _, Nat.zero_le _, by go_num, by go_num, Lib.hid ⟨by simp, HB.out, HP0.out⟩⟩
  case round =>
    obtain ⟨k, c, hk, hcn, rfl, rfl, HR⟩ := hrel
    by_cases hkN : k < N
    · have hd : decide ((k : Int) < N) = true := decide_eq_true (by omega)
      have hb0 : (0 : Int) ≤ k := by omega
      have hb1 : (k : Int) < N := by omega
      have hkg : k < (groups r n).length := by rw [← Hgs.out, ← HN.out]; exact hkN
      obtain ⟨gk, Hgk⟩ : ∃ x, Hid (x = (groups r n)[k]) := ⟨_, Lib.hid rfl⟩
      have hkg2 : k < gs.length := by rw [← HN.out]; exact hkN
      have Hgk2 : Hid (gs[k] = gk) := Lib.hid (by rw [Hgk.out]; simp only [Hgs.out])
      have hL0 : 0 < gk.length := by rw [Hgk.out]; exact group_pos hkg
      have hat := HS.out.ats hkg2 (by rw [Hgk2.out]; exact hL0)
      rw [Hgk2.out] at hat
      obtain ⟨gb, g, cp, rfl, hat⟩ := hat
      have HAt := Lib.hid hat
      clear hat
      obtain ⟨L, HL⟩ : ∃ x, Hid (x = gk.length) := ⟨_, Lib.hid rfl⟩
      obtain ⟨h1, Hh1⟩ : ∃ x, Hid (x = gk[0]) := ⟨_, Lib.hid rfl⟩
      have hL1 : 0 < L := by rw [HL.out]; exact hL0
      have HBs : Hid (∀ Z : Grown wr, Below W.heap.size W Z.w) := Lib.hid (fun Z => below_step HR.out.2.1 Z.below)
      have ga : ∀ Z : Grown wr, Z.w.cell? ⟨gb, k, none⟩ = some (.slice (some ⟨g, 0, none⟩) L cp) := fun Z => by rw [HL.out]; exact (HAt.out _ (HBs.out Z)).1
      have gc : ∀ Z : Grown wr, Z.w.cell? ⟨g, 0, none⟩ = some (.int .i64 h1) := fun Z => by rw [Hh1.out]; exact (HAt.out _ (HBs.out Z)).2 0 hL0
      have hl0 : ((L : Int) == 0) = false := by simp; omega
      have hl2 : (0 : Int) < L := by omega
      go_upto_region 6 with fail
      go_cut [44] from 13 to 97 (fun b wx => b = .bool false ∧ Hid (Below W.heap.size W wx ∧ IsP wx pb n (seenF r n k 0)))
      case first =>
        rcases Nat.eq_zero_or_pos k with rfl | hkp
        · have hk1 : decide ((0 : Int) < ((0 : Nat) : Int)) = false := rfl
          have hk2 : decide (0 < 0) = false := rfl
          go_wp2_with fail
          refine wp_region_grown (by kernel_rfl) (by kernel_rfl) ?_
          repeat (go_big_quiet_step (fail))
          refine wpQuiet_nil ?_
          rintro _ ⟨Z, rfl⟩
          go_wp2_with fail
          go_meet
          exact ⟨rfl, Lib.hid ⟨HBs.out Z, HR.out.2.2.below Z.below⟩⟩
        · obtain ⟨q, Hq⟩ : ∃ q, Hid (k = q + 1) := ⟨k - 1, Lib.hid (by omega)⟩
          have hqg : q < (groups r n).length := by have := Hq.out; omega
          have hqg2 : q < gs.length := by have := Hq.out; omega
          have Hgq2 : Hid (gs[q] = (groups r n)[q]) := Lib.hid (by simp only [Hgs.out])
          have hQ0 : 0 < gs[q].length := by rw [Hgq2.out]; exact group_pos hqg
          obtain ⟨gb', g', cp', e', hat'⟩ := HS.out.ats hqg2 hQ0
          injection e' with e'
          injection e' with e'
          subst e'
          obtain ⟨h0, Hh0⟩ : ∃ x, Hid (x = gs[q][0]) := ⟨_, Lib.hid rfl⟩
          obtain ⟨L', HL'⟩ : ∃ x, Hid (x = gs[q].length) := ⟨_, Lib.hid rfl⟩
          have hL2 : 0 < L' := by rw [HL'.out]; exact hQ0
          have gp : ∀ Z : Grown wr, Z.w.cell? ⟨gb, q, none⟩ = some (.slice (some ⟨g', 0, none⟩) L' cp') := fun Z => by rw [HL'.out]; exact (hat' _ (HBs.out Z)).1
          have gq : ∀ Z : Grown wr, Z.w.cell? ⟨g', 0, none⟩ = some (.int .i64 h0) := fun Z => by rw [Hh0.out]; exact (hat' _ (HBs.out Z)).2 0 hQ0
          clear hat'
          have hlt : h0 < h1 := by
            rw [Hh0.out, Hh1.out]
            have := head_lt (r := r) (n := n) (s := q) (t := k) (by have := Hq.out; omega) hkg
            simp only [Hgk.out, Hgs.out]
            exact this
          have hk1 : decide ((0 : Int) < (k : Int)) = true := decide_eq_true (by omega)
          have hk2 : decide (0 < k) = true := decide_eq_true hkp
          have hkq : (k : Int) - 1 = (q : Int) := by have := Hq.out; omega
          have hq0 : (0 : Int) ≤ q := by omega
          have hqN : (q : Int) < N := by have := Hq.out; omega
          have hL3 : (0 : Int) < L' := by omega
          have hge : decide ((h1 : Int) ≤ h0) = false := decide_eq_false (by omega)
          have hge2 : decide (h1 ≤ h0) = false := decide_eq_false (by omega)
          go_wp2_with fail
          refine wp_region_grown (by kernel_rfl) (by kernel_rfl) ?_
          repeat (go_big_quiet_step (fail))
          refine wpQuiet_nil ?_
          rintro _ ⟨Z, rfl⟩
          go_wp2_with fail
          go_meet
          exact ⟨rfl, Lib.hid ⟨HBs.out Z, HR.out.2.2.below Z.below⟩⟩
      case rest =>
        obtain ⟨rfl, HX⟩ := hcut
        clear ga gc
        have ga : ∀ w, Below W.heap.size W w → w.cell? ⟨gb, k, none⟩ = some (.slice (some ⟨g, 0, none⟩) L cp) := fun w hw => by rw [HL.out]; exact (HAt.out _ hw).1
        have HGa := Lib.hid ga
        clear ga
        have hcL : c + L ≤ n := by
          have e1 := pre_sum gs k hkg2
          have e2 := pre_le gs (k + 1)
          have e3 : (gs.map List.length).sum = n := by rw [Hgs.out]; exact groups_sum r n
          rw [Hgk2.out, ← HL.out, ← HR.out.1] at e1
          omega
        go_wp2_with fail
        go_loopw [7, 9] (fun a i ws => ∃ j : Nat, j ≤ L ∧ a = .int .i64 ((c + j : Nat) : Int) ∧ i = .int .i64 j ∧ Hid (Below W.heap.size W ws ∧ IsP ws pb n (seenF r n k j))) (fun _ i _ => L - (intOf i).toNat)
        case atStart => exact ⟨0, Nat.zero_le _, by go_num, by go_num, HX⟩
        case round =>
          obtain ⟨j, hj, rfl, rfl, HJ⟩ := hrel
          have g0 : wr.cell? ⟨gb, k, none⟩ = some (.slice (some ⟨g, 0, none⟩) L cp) := HGa.out _ HJ.out.1
          by_cases hjL : j < L
          · have hd2 : decide ((j : Int) < L) = true := decide_eq_true (by omega)
            have hj0 : (0 : Int) ≤ j := by omega
            have hj1 : (j : Int) < L := by omega
            have hjg : j < gk.length := by rw [← HL.out]; exact hjL
            have Hgk3 : Hid ((groups r n)[k] = gk) := Lib.hid Hgk.out.symm
            have hjG : j < (groups r n)[k].length := by rw [Hgk3.out]; exact hjg
            obtain ⟨x, Hx⟩ : ∃ x, Hid (x = gk[j]) := ⟨_, Lib.hid rfl⟩
            have HxG : Hid ((groups r n)[k][j] = x) := Lib.hid (by rw [Hx.out]; simp only [Hgk.out])
            have hxn : x < n := by rw [← HxG.out]; exact ((group_mem hkg).1 (List.getElem_mem hjG)).1
            have cx : wr.cell? ⟨g, j, none⟩ = some (.int .i64 x) := by rw [Hx.out]; exact (HAt.out _ HJ.out.1).2 j hjg
            have co : wr.cell? ⟨pb, x, none⟩ = some (.int .i64 0) := by
              have := HJ.out.2.cell hxn
              rw [← HxG.out, seen_new hkg hjG, HxG.out] at this
              exact this
            have fz := HJ.out.2.frozen x
            have hx0 : decide ((x : Int) < 0) = false := decide_eq_false (by omega)
            have hx1 : decide ((n : Int) ≤ x) = false := decide_eq_false (by omega)
            have hx2 : decide (n ≤ x) = false := decide_eq_false (by omega)
            have hxz : (0 : Int) ≤ x := by omega
            have hxl : (x : Int) < n := by omega
            have HP1 : Hid (IsP (wr.setCell ⟨pb, x, none⟩ (.int .i64 ((k : Int) + 1))) pb n (seenF r n k (j + 1))) := Lib.hid (by
              have := HJ.out.2.set x (k + 1)
              rw [show (((k + 1 : Nat) : Int)) = (k : Int) + 1 from by omega] at this
              refine this.congr (fun y _ => ?_)
              rw [seen_more hkg hjG, HxG.out]
              rfl)
            have HB1 : Hid (Below W.heap.size W (wr.setCell ⟨pb, x, none⟩ (.int .i64 ((k : Int) + 1)))) := Lib.hid (HJ.out.1.grown (grown_setL (grown_refl wr (some pb)) x _) HJ.out.1.size (fun y e => by cases e; rw [Hpb.out]; exact Nat.le_refl _))
            rcases Nat.eq_zero_or_pos j with rfl | hjp
            · have hk1 : decide ((0 : Int) < ((0 : Nat) : Int)) = false := rfl
              have hk2 : decide (0 < 0) = false := rfl
              go_wp2_with fail
              go_round
              case rel => exact ⟨0 + 1, by omega, by go_num, by go_num, Lib.hid ⟨HB1.out, HP1.out⟩⟩
              case measure => simp [intOf]; omega
            · obtain ⟨q, Hq⟩ : ∃ q, Hid (j = q + 1) := ⟨j - 1, Lib.hid (by omega)⟩
              have hqg : q < gk.length := by have := Hq.out; omega
              obtain ⟨y, Hy⟩ : ∃ y, Hid (y = gk[q]) := ⟨_, Lib.hid rfl⟩
              have cy : wr.cell? ⟨g, q, none⟩ = some (.int .i64 y) := by rw [Hy.out]; exact (HAt.out _ HJ.out.1).2 q hqg
              have hyx : y < x := by
                have hsr := group_sorted (r := r) (n := n) hkg
                rw [Hgk3.out] at hsr
                rw [Hy.out, Hx.out]
                exact List.pairwise_iff_getElem.1 hsr q j hqg hjg (by have := Hq.out; omega)
              have hk1 : decide ((0 : Int) < (j : Int)) = true := decide_eq_true (by omega)
              have hk2 : decide (0 < j) = true := decide_eq_true hjp
              have hkq : (j : Int) - 1 = (q : Int) := by have := Hq.out; omega
              have hq0 : (0 : Int) ≤ q := by omega
              have hqL : (q : Int) < L := by have := Hq.out; omega
              have hge : decide ((x : Int) ≤ y) = false := decide_eq_false (by omega)
              have hge2 : decide (x ≤ y) = false := decide_eq_false (by omega)
              go_wp2_with fail
              go_round
              case rel => exact ⟨j + 1, by omega, by go_num, by go_num, Lib.hid ⟨HB1.out, HP1.out⟩⟩
              case measure => simp [intOf]; omega
          · obtain rfl : j = L := by omega
            have hd2 : decide ((j : Int) < j) = false := decide_eq_false (by omega)
            have HE : Hid (c + j = ((gs.take (k + 1)).map List.length).sum) := Lib.hid (by rw [pre_sum gs k hkg2, Hgk2.out, ← HL.out, ← HR.out.1])
            have HP2 : Hid (IsP wr pb n (seenF r n (k + 1) 0)) := Lib.hid (HJ.out.2.congr (fun y hy => by
              rw [seen_next hkg hy, ← Hgk.out, ← HL.out]))
            go_wp2_with fail
            go_roundw
            case rel => exact ⟨k + 1, c + j, by omega, by omega, by go_num, by go_num, Lib.hid ⟨HE.out, HJ.out.1, HP2.out⟩⟩
            case measure => simp [intOf]; omega
    · obtain rfl : k = N := by omega
      have hd : decide ((k : Int) < k) = false := decide_eq_false (by omega)
      have HE : Hid (c = n) := Lib.hid (by rw [HR.out.1, HN.out, List.take_length, Hgs.out, groups_sum])
      obtain rfl := HE.out
      have HP1 : Hid (IsP wr pb c (num r c)) := Lib.hid (HR.out.2.2.congr (fun j hj => by rw [HN.out, Hgs.out]; exact seen_end hj))
      have heq : ((c : Int) == (c : Int)) = true := by simp
      go_wp2_with fail
      refine bodyPost_ret (results_two rfl _ _) rfl ?_
      exact ⟨pb, rfl, by rw [Hpb.out]; exact Nat.le_refl _, HP1.out, HR.out.2.1⟩
end Go.Proofs.Ytolnpimnoajcaaa
