/- The walks of the reference: the critical hours, and what is ready. -/
import Derived.Test.YtejgbfaampllaaaTskRefB
namespace Go.Proofs.Ytejgbfaampllaaa
open Go.RowKit

set_option maxRecDepth 100000 in
set_option maxHeartbeats 4000000 in
theorem rcrit_no (l : List Tk) (hf : ∀ t ∈ l, tkFine t) (hn : l.length ≤ 9223372036854775807) (he : Tsk.orderE l ≠ 0) (ao : Option Addr) (cap : Nat) (W : World) (hl : IsTasks W ao l) :
    Calls Try.prog 14 #[.slice ao l.length cap] W fun e w' => e = .returned (.tuple #[.int .i64 (Tsk.critV l), .int .i64 (Tsk.orderE l)]) ∧ Below W.heap.size W w' := by
  have HO := Lib.hid (rorder_any l hf hn ao cap W hl)
  have hc : Tsk.critV l = 0 := by unfold Tsk.critV; rw [if_neg he]
  rw [hc]
  obtain ⟨n, Hn⟩ : ∃ n, Hid (n = l.length) := ⟨_, Lib.hid rfl⟩
  obtain ⟨E, HE⟩ : ∃ n, Hid (n = Tsk.orderE l) := ⟨_, Lib.hid rfl⟩
  unfold OrderPost at HO
  rw [← Hn.out, ← HE.out] at HO
  rw [← Hn.out, ← HE.out]
  have hE : (E != 0) = true := by rw [HE.out]; simpa using he
  clear hf hn hl he hc
  go_enter Try.func14, Try.ntmps14
  go_wp2_with fail
  refine HO.out.mono ?_
  rintro e w1 ⟨ao3, cap3, rfl, hb, hi⟩
  have HB := Lib.hid hb
  clear hb hi
  go_wp2
  go_ret2
  exact ⟨rfl, HB.out⟩

set_option maxRecDepth 100000 in
set_option maxHeartbeats 4000000 in
theorem rcrit_yes (l : List Tk) (hf : ∀ t ∈ l, tkFine t) (hn : l.length ≤ 9223372036854775807) (he : Tsk.orderE l = 0) (ao : Option Addr) (cap : Nat) (W : World) (hl : IsTasks W ao l) :
    Calls Try.prog 14 #[.slice ao l.length cap] W fun e w' => e = .returned (.tuple #[.int .i64 (Tsk.critV l), .int .i64 (Tsk.orderE l)]) ∧ Below W.heap.size W w' := by
  obtain ⟨hv, hlen, hov⟩ := orderE_zero he
  have HO := Lib.hid (rorder_any l hf hn ao cap W hl)
  obtain ⟨r, Hr⟩ : ∃ r, Hid (r = Tsk.critV l) := ⟨_, Lib.hid rfl⟩
  have HRes : Hid (r = (Tsk.critF l (Tsk.orderL l)).2) := Lib.hid (by rw [Hr.out]; unfold Tsk.critV; rw [if_pos he])
  unfold OrderPost at HO
  rw [hov, hlen, he] at HO
  rw [← Hr.out, he]
  have HGood := Lib.hid (Tsk.order_good l)
  obtain ⟨ord, HOrd⟩ : ∃ x, Hid (x = Tsk.orderL l) := ⟨_, Lib.hid rfl⟩
  rw [← HOrd.out] at HO hlen HRes HGood
  have h40 := (Tsk.validB_iff.1 hv).1
  have HBd := Lib.hid fun o => Tsk.critF_bd hv o
  have HHr := Lib.hid fun i => Tsk.hoursAt_bd hv i
  obtain ⟨n, Hn⟩ : ∃ n, Hid (n = l.length) := ⟨_, Lib.hid rfl⟩
  have HNA := Lib.hid fun (W' : World) (h : IsTasks W' ao l) k (hk : k < n) => needs_at hv Hn.out h hk
  have HL := Lib.hid hl
  have HLen := Lib.hid hlen
  rw [← Hn.out] at HO h40 HLen ⊢
  clear hf hn hl he hov hlen hv
  have hn40 : (n : Int) ≤ 40 := by omega
  obtain ⟨i1, hi1, hy0, hy1, hy2⟩ := info_parts info_int
  have hmax := fun (ts : Array TypeId) (t : TypeId) (a b : Int) (w : World) => run_max2 (P := Try.prog) ts t a b w
  go_enter Try.func14, Try.ntmps14
  go_wp2_with fail
  refine HO.out.mono ?_
  rintro e w1 ⟨ao3, cap3, rfl, hb, hi⟩
  have HB1 := Lib.hid hb
  have HI1 := Lib.hid hi
  have hs1 := hb.size
  clear hb hi
  go_wp2_with (at_make; refine wpList_make_full _ rfl _ _ 26 rfl w1.heap.size 3 i1 (.int .i64 0) 1 Try.underlying26 hi1 hy0 hy1 .i64 .i64 _ _ n rfl rfl rfl rfl (by rw [hy2]; omega) (by unfold maxLen; omega) (Nat.le_refl _) ?_; intro w2 hown hgr; have HO2 := Lib.hid hown; have HG2 := Lib.hid hgr; clear hown hgr)
  have HW0 : Hid (Below w1.heap.size w1 w2 ∧ Whole w2 w1.heap.size 3 (intsC (Tsk.critF l (ord.take 0)).1)) := Lib.hid (by
    refine ⟨⟨HG2.out.os, HG2.out.tape, HG2.out.output, HG2.out.size, fun k hk => HG2.out.block k hk (by simp)⟩, ?_⟩
    have ho := HO2.out
    have e1 : (madeCells (Value.int .i64 0).cells (n * 1)).toList = List.replicate n (.int .i64 0) := by rw [Nat.mul_one]; exact toList_madeCells_one _ _
    rw [e1] at ho
    have hw := whole_of_full ho (by simp)
    rw [intsC_zero, Hn.out] at hw
    exact hw)
  obtain ⟨g, Hg⟩ : ∃ x, Hid (x = w1.heap.size) := ⟨_, Lib.hid rfl⟩
  rw [← Hg.out] at HW0 ⊢
  clear hs1
  go_loopw [7, 8] (fun v i wr => ∃ k : Nat, k ≤ n ∧ i = .int .i64 k ∧ ∃ x, v = .int .i64 x ∧ Hid (x = (Tsk.critF l (ord.take k)).2) ∧ Hid (Below g w1 wr ∧ Whole wr g 3 (intsC (Tsk.critF l (ord.take k)).1))) (fun _ i _ => n - (intOf i).toNat)
  case atStart => exact ⟨0, by omega, rfl, 0, rfl, Lib.hid rfl, HW0⟩
  case round =>
    obtain ⟨k, hk, rfl, x, rfl, HX, HW⟩ := hrel
    by_cases hlt : k < n
    · have hlt' : (k : Int) < n := by omega
      have hko : k < ord.length := by rw [HLen.out]; exact hlt
      have hBw : Below w1.heap.size w1 wr := by rw [← Hg.out]; exact HW.out.1
      obtain ⟨b3, o3, rfl, hb3, d3⟩ := ints_at (HI1.out.below hBw) hko
      obtain ⟨i, Hi⟩ : ∃ i : Nat, Hid (i = ord[k]) := ⟨_, Lib.hid rfl⟩
      rw [← Hi.out] at d3
      have hin : i < n := by rw [Hi.out, Hn.out]; exact HGood.out.lt _ (List.getElem_mem _)
      have hin' : (i : Int) < n := by omega
      obtain ⟨bk, off, ao2, cap2, zs, rfl, hbk, c1, ⟨sk, c2⟩, ⟨ba, c3⟩, c4, hin2, hzs, hzl, hz40⟩ := HNA.out wr (HL.out.below (below_step HB1.out hBw)) i hin
      have hhb := HHr.out i
      obtain ⟨hh, Hhh⟩ : ∃ y, Hid (y = Tsk.hoursAt l i) := ⟨_, Lib.hid rfl⟩
      rw [← Hhh.out] at c1 hhb
      obtain ⟨mm, Hm⟩ : ∃ m, Hid (m = zs.length) := ⟨_, Lib.hid rfl⟩
      rw [← Hm.out] at c4 hz40
      have HIn := Lib.hid hin2
      have HZ := Lib.hid hzs
      have HZl := Lib.hid hzl
      have hbd := HBd.out (ord.take k)
      have hkl : (ord.take k).length = k := by rw [List.length_take]; omega
      rw [hkl] at hbd
      have hxb : 0 ≤ x ∧ x ≤ 40000 := by rw [HX.out]; have := hbd.2; omega
      obtain ⟨EN, HEN⟩ : ∃ y, Hid (y = (Tsk.critF l (ord.take k)).1) := ⟨_, Lib.hid rfl⟩
      rw [← HEN.out] at HW hbd
      have HENl : Hid (EN.length = n) := Lib.hid (by rw [HEN.out, Tsk.critF_len, ← Hn.out])
      have HENb : Hid (∀ j, 0 ≤ EN.getD j 0 ∧ EN.getD j 0 ≤ 40000) := Lib.hid fun j => by have := hbd.1 j; omega
      have HD3 := Lib.hid d3
      clear hin2 hbd hkl hb3 hBw hzs hzl
      go_wp2_with fail
      obtain ⟨W8, HW8⟩ : ∃ x, Hid (x = wr.alloc (.cells #[.int .i64 hh, .int .i64 sk, .bool ba, .slice ao2 mm cap2] 41)) := ⟨_, Lib.hid rfl⟩
      obtain ⟨b9, Hb9⟩ : ∃ x, Hid (x = wr.heap.size) := ⟨_, Lib.hid rfl⟩
      have HT8 : Hid (Whole W8 b9 41 #[.int .i64 hh, .int .i64 sk, .bool ba, .slice ao2 mm cap2]) := Lib.hid (by rw [HW8.out, Hb9.out]; exact Whole.new _ _ _)
      have HG8 : Hid (Below g w1 W8 ∧ Whole W8 g 3 (intsC EN)) := Lib.hid (by rw [HW8.out]; exact ⟨HW.out.1.alloc (by have := HW.out.2.lt; omega) _, HW.out.2.alloc _⟩)
      have HIn8 : Hid (IsInts W8 ao2 (Tsk.ints zs)) := Lib.hid (by rw [HW8.out]; exact HIn.out.below (below_alloc (Below.refl _ _) _))
      have HD38 : Hid (W8.cell? ⟨b3, o3 + k, none⟩ = some (.int .i64 i)) := Lib.hid (by rw [HW8.out, cell_alloc, if_neg (fun e => by have h1 := lt_of_cell HD3.out; have h2 : b3 = wr.heap.size := e; omega)]; exact HD3.out)
      rw [← HW8.out, ← Hb9.out]
      clear c1 c2 c3 c4 d3 hbk
      have q0 : W8.cell? ⟨b9, 0, none⟩ = some (.int .i64 hh) := HT8.out.cell 0
      have q3 : W8.cell? ⟨b9, 3, none⟩ = some (.slice ao2 mm cap2) := HT8.out.cell 3
      go_loop [10, 11] (fun s q => ∃ j : Nat, j ≤ mm ∧ q = .int .i64 j ∧ ∃ S : Int, s = .int .i64 S ∧ Hid (S = Tsk.startOf EN (zs.take j))) (fun _ q => mm - (intOf q).toNat)
      case atStart => exact ⟨0, by omega, rfl, 0, rfl, Lib.hid rfl⟩
      case round =>
        obtain ⟨j, hj, rfl, S, rfl, HS⟩ := hrel
        have hSb : 0 ≤ S ∧ S ≤ 40000 := by rw [HS.out]; exact Tsk.startOf_bd (by omega) HENb.out _
        by_cases hlt2 : j < mm
        · have hlt2' : (j : Int) < mm := by omega
          have hja : j < zs.length := by rw [← Hm.out]; exact hlt2
          obtain ⟨b4, o4, rfl, hb4, d4⟩ := ints_at HIn8.out hja
          obtain ⟨y, Hy⟩ : ∃ y : Nat, Hid (y = zs[j]) := ⟨_, Lib.hid rfl⟩
          rw [← Hy.out] at d4
          have hyn : y < n := by rw [Hy.out]; exact HZl.out _ (List.getElem_mem _)
          have hyn' : (y : Int) < n := by omega
          obtain ⟨M, HMx⟩ : ∃ z, Hid (z = EN.getD y 0) := ⟨_, Lib.hid rfl⟩
          have e2 : W8.cell? ⟨g, y, none⟩ = some (.int .i64 M) := by
            rw [HG8.out.2.cell y, intsC_get (by rw [HENl.out]; exact hyn), HMx.out]
          have HSn : Hid (max S M = Tsk.startOf EN (zs.take (j + 1))) := Lib.hid (by
            rw [List.take_succ_eq_append_getElem hja, Tsk.startOf_snoc, ← Hy.out, HS.out, HMx.out])
          clear hb4
          go_wp2
          go_round
          case rel => exact ⟨j + 1, by omega, by go_num, _, rfl, HSn⟩
          case measure => simp [intOf]; omega
        · have HSe : Hid (S = Tsk.startOf EN (Tsk.needsAt l i)) := Lib.hid (by
            rw [HS.out, ← HZ.out, List.take_of_length_le (by have := Hm.out; omega)])
          obtain rfl : mm = j := by omega
          have d3 := HD38.out
          have hgl := HG8.out.2.lt
          have e1 : W8.cell? ⟨g, i, none⟩ = some (.int .i64 (EN.getD i 0)) := by
            rw [HG8.out.2.cell i, intsC_get (by rw [HENl.out]; exact hin)]
          have f1 := HG8.out.2.frozen i
          have hne9 : b9 ≠ g := HT8.out.apart HG8.out.2 (by decide)
          have hwr : IntKind.i64.wrap (S + hh) = S + hh := IntWalk.i64_in _ (by omega)
          have q0' : ∀ u, (W8.setCell ⟨g, i, none⟩ u).drew.cell? ⟨b9, 0, none⟩ = some (.int .i64 hh) := fun u => (HT8.out.far (p := ⟨g, i, none⟩) hne9 u).drew.cell 0
          go_wp2_with fail
          go_still_tail 10, (by kernel_rfl)
          repeat still_step
          try refine wpStill_nil ?_
          clear hwr
          clear q0'
          go_wp2
          go_roundw
          case rel => exact ⟨k + 1, by omega, by go_num, max x (S + hh), rfl, Lib.hid (by
            rw [Tsk.critF_take l ord hko]
            show _ = max _ _
            rw [← HX.out, ← HEN.out, ← Hi.out, ← HSe.out, ← Hhh.out]), Lib.hid ⟨(Below.setCell HG8.out.1 (p := ⟨g, i, none⟩) (Nat.le_refl _) _).drew, by
            have h2 := (HG8.out.2.set i (.int .i64 (S + hh))).drew
            rw [intsC_set] at h2
            have e : (Tsk.critF l (ord.take (k + 1))).1 = EN.set i (S + hh) := by
              rw [Tsk.critF_take l ord hko]
              show List.set _ _ _ = _
              rw [← HEN.out, ← Hi.out, ← HSe.out, ← Hhh.out]
            rw [e]
            exact h2⟩⟩
          case measure => simp [intOf]; omega
    · have HE : Hid (r = x) := Lib.hid (by
        rw [HRes.out, HX.out]
        rw [List.take_of_length_le (by rw [HLen.out]; omega)])
      obtain rfl : n = k := by omega
      go_wp2
      go_ret2
      refine ⟨by rw [HE.out] <;> rfl, ?_⟩
      have hBw : Below w1.heap.size w1 wr := by rw [← Hg.out]; exact HW.out.1
      exact below_step HB1.out hBw

end Go.Proofs.Ytejgbfaampllaaa
