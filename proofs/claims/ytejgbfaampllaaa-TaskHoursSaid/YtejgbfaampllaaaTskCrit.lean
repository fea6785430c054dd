/- The walk: the critical hours. -/
import Derived.Test.YtejgbfaampllaaaTskOrder
import Derived.Test.YtejgbfaampllaaaTskCritMath
import Derived.StillTailTactics
import Derived.IntWalk
namespace Go.Proofs.Ytejgbfaampllaaa
open Go.RowKit

theorem run_max2 {P : Program} (ts : Array TypeId) (t : TypeId) (a b : Int) (w : World) : (Builtin.max_ ts t #[.int .i64 a, .int .i64 b]).run P w = .ok (.int .i64 (max a b)) w := by
  have e : max a b = if a < b then b else a := by omega
  rw [e]
  simp [Builtin.max_, Builtin.max2] <;> rfl
def intsC (zs : List Int) : Array Value := (zs.map (Value.int .i64)).toArray
theorem intsC_get {zs : List Int} {i : Nat} (h : i < zs.length) : (intsC zs)[i]? = some (.int .i64 (zs.getD i 0)) := by
  rw [Tsk.getD_get h]
  simp [intsC, h]
theorem intsC_set (zs : List Int) (i : Nat) (x : Int) : (intsC zs).setIfInBounds i (.int .i64 x) = intsC (zs.set i x) := by
  simp [intsC, List.map_set]
theorem intsC_zero (n : Nat) : (List.replicate n (Value.int .i64 0)).toArray = intsC (List.replicate n 0) := by simp [intsC]
theorem set_same {a : List Int} {i : Nat} (h : a.getD i 0 = 0) : a.set i 0 = a := by
  apply List.ext_getElem?
  intro j
  rw [List.getElem?_set]
  by_cases e : i = j
  · subst e
    by_cases hl : i < a.length
    · rw [if_pos rfl, if_pos hl, List.getElem?_eq_getElem hl]
      rw [Tsk.getD_get hl] at h
      rw [h]
    · rw [if_pos rfl, if_neg hl, List.getElem?_eq_none (by omega)]
  · rw [if_neg e]
theorem orderE_zero {l : List Tk} (h : Tsk.orderE l = 0) : Tsk.validB l = true ∧ (Tsk.orderL l).length = l.length ∧ Tsk.orderV l = Tsk.orderL l := by
  unfold Tsk.orderE at h
  cases hv : Tsk.validB l
  · rw [hv] at h; simp at h
  · rw [hv, if_pos rfl] at h
    by_cases hl : (Tsk.orderL l).length < l.length
    · rw [if_pos hl] at h; simp at h
    · have := (Tsk.order_good l).len
      refine ⟨rfl, by omega, ?_⟩
      unfold Tsk.orderV
      rw [hv, decide_eq_true (by omega)]
      rfl
theorem orderE_cases (l : List Tk) : Tsk.orderE l = 0 ∨ Tsk.orderE l = 1 ∨ Tsk.orderE l = 24 := by
  unfold Tsk.orderE
  split
  · split
    · exact Or.inr (Or.inr rfl)
    · exact Or.inl rfl
  · exact Or.inr (Or.inl rfl)

set_option maxRecDepth 100000 in
set_option maxHeartbeats 4000000 in
theorem crit_no (l : List Tk) (hf : ∀ t ∈ l, tkFine t) (hn : l.length ≤ 9223372036854775807) (he : Tsk.orderE l ≠ 0) (ao : Option Addr) (cap : Nat) (W : World) (hl : IsTasks W ao l) :
    Calls Try.prog 13 #[.slice ao l.length cap] W fun e w' => e = .returned (.tuple #[.int .i64 (Tsk.critV l), .int .i64 (Tsk.orderE l)]) ∧ Below W.heap.size W w' := by
  have HO := Lib.hid (order_any l hf hn ao cap W hl)
  have hc : Tsk.critV l = 0 := by unfold Tsk.critV; rw [if_neg he]
  rw [hc]
  obtain ⟨n, Hn⟩ : ∃ n, Hid (n = l.length) := ⟨_, Lib.hid rfl⟩
  obtain ⟨E, HE⟩ : ∃ n, Hid (n = Tsk.orderE l) := ⟨_, Lib.hid rfl⟩
  unfold OrderPost at HO
  rw [← Hn.out, ← HE.out] at HO
  rw [← Hn.out, ← HE.out]
  have hE : (E != 0) = true := by rw [HE.out]; simpa using he
  clear hf hn hl he hc
  go_enter Try.func13, Try.ntmps13
  go_wp2_with fail
  refine HO.out.mono ?_
  rintro e w1 ⟨ao3, cap3, rfl, hb, hi⟩
  have HB := Lib.hid hb
  clear hb hi
  go_wp2
  go_ret2
  exact ⟨rfl, HB.out⟩

set_option maxRecDepth 100000 in
set_option maxHeartbeats 4000000 in
theorem crit_yes (l : List Tk) (hf : ∀ t ∈ l, tkFine t) (hn : l.length ≤ 9223372036854775807) (he : Tsk.orderE l = 0) (ao : Option Addr) (cap : Nat) (W : World) (hl : IsTasks W ao l) :
    Calls Try.prog 13 #[.slice ao l.length cap] W fun e w' => e = .returned (.tuple #[.int .i64 (Tsk.critV l), .int .i64 (Tsk.orderE l)]) ∧ Below W.heap.size W w' := by
  obtain ⟨hv, hlen, hov⟩ := orderE_zero he
  have HO := Lib.hid (order_any l hf hn ao cap W hl)
  obtain ⟨r, Hr⟩ : ∃ r, Hid (r = Tsk.critV l) := ⟨_, Lib.hid rfl⟩
  have HRes : Hid (r = (Tsk.critF l (Tsk.orderL l)).2) := Lib.hid (by rw [Hr.out]; unfold Tsk.critV; rw [if_pos he])
  unfold OrderPost at HO
  rw [hov, hlen, he] at HO
  rw [← Hr.out, he]
  have HPre := Lib.hid fun k (h : k < (Tsk.orderL l).length) => Tsk.order_at h
  have HGood := Lib.hid (Tsk.order_good l)
  obtain ⟨ord, HOrd⟩ : ∃ x, Hid (x = Tsk.orderL l) := ⟨_, Lib.hid rfl⟩
  rw [← HOrd.out] at HO hlen HRes HPre HGood
  have h40 := (Tsk.validB_iff.1 hv).1
  have HBd := Lib.hid fun o => Tsk.critF_bd hv o
  have HHr := Lib.hid fun i => Tsk.hoursAt_bd hv i
  have HFine := Lib.hid (Tsk.validB_iff.1 hv).2
  have HF := Lib.hid hf
  have HL := Lib.hid hl
  obtain ⟨n, Hn⟩ : ∃ n, Hid (n = l.length) := ⟨_, Lib.hid rfl⟩
  have HLen := Lib.hid hlen
  rw [← Hn.out] at HO h40 HLen ⊢
  clear hf hn hl he hov hlen hv
  have hn40 : (n : Int) ≤ 40 := by omega
  obtain ⟨i1, hi1, hy0, hy1, hy2⟩ := info_parts info_int
  have hmax := fun (ts : Array TypeId) (t : TypeId) (a b : Int) (w : World) => run_max2 (P := Try.prog) ts t a b w
  go_enter Try.func13, Try.ntmps13
  go_wp2_with fail
  refine HO.out.mono ?_
  rintro e w1 ⟨ao3, cap3, rfl, hb, hi⟩
  have HB1 := Lib.hid hb
  have HI1 := Lib.hid hi
  have hs1 := hb.size
  clear hb hi
  go_wp2_with (at_make; refine wpList_make_full _ rfl _ _ 26 rfl w1.heap.size 3 i1 (.int .i64 0) 1 Try.underlying26 hi1 hy0 hy1 .i64 .i64 _ _ n rfl rfl rfl rfl (by rw [hy2]; omega) (by unfold maxLen; omega) (Nat.le_refl _) ?_; intro w2 hown hgr; have HO2 := Lib.hid hown; have HG2 := Lib.hid hgr; clear hown hgr)
  have HW0 : Hid (Below w1.heap.size w1 w2 ∧ Whole w2 w1.heap.size 3 (intsC (Tsk.critF l (ord.take 0)).1)) := Lib.hid (by
    refine ⟨⟨HG2.out.os, HG2.out.tape, HG2.out.output, HG2.out.size, fun k hk => HG2.out.block k hk (by simp)⟩, ?_⟩
    have ho := HO2.out
    have e1 : (madeCells (Value.int .i64 0).cells (n * 1)).toList = List.replicate n (.int .i64 0) := by rw [Nat.mul_one]; exact toList_madeCells_one _ _
    rw [e1] at ho
    have hw := whole_of_full ho (by simp)
    rw [intsC_zero, Hn.out] at hw
    exact hw)
  obtain ⟨g, Hg⟩ : ∃ x, Hid (x = w1.heap.size) := ⟨_, Lib.hid rfl⟩
  rw [← Hg.out] at HW0 ⊢
  clear hs1
  go_loopw [7, 25] (fun v i wr => ∃ k : Nat, k ≤ n ∧ i = .int .i64 k ∧ ∃ x, v = .int .i64 x ∧ Hid (x = (Tsk.critF l (ord.take k)).2) ∧ Hid (Below g w1 wr ∧ Whole wr g 3 (intsC (Tsk.critF l (ord.take k)).1))) (fun _ i _ => n - (intOf i).toNat)
  case atStart => exact ⟨0, by omega, rfl, 0, rfl, Lib.hid rfl, HW0⟩
  case round =>
    obtain ⟨k, hk, rfl, x, rfl, HX, HW⟩ := hrel
    by_cases hlt : k < n
    · have hlt' : (k : Int) < n := by omega
      have hko : k < ord.length := by rw [HLen.out]; exact hlt
      have hkz : k < (Tsk.ints ord).length := by simpa [Tsk.ints] using hko
      have hBw : Below w1.heap.size w1 wr := by rw [← Hg.out]; exact HW.out.1
      obtain ⟨b3, o3, rfl, hb3, d3⟩ := (HI1.out.below hBw).at hkz
      obtain ⟨i, Hi⟩ : ∃ i : Nat, Hid (i = ord[k]) := ⟨_, Lib.hid rfl⟩
      have hd3 : (Tsk.ints ord)[k] = (i : Int) := by rw [Hi.out]; simp [Tsk.ints]
      rw [hd3] at d3
      have hin : i < n := by rw [Hi.out, Hn.out]; exact HGood.out.lt _ (List.getElem_mem _)
      have hin' : (i : Int) < n := by omega
      have hil : i < l.length := by rw [← Hn.out]; exact hin
      obtain ⟨bk, off, rfl, hbk, hact⟩ := (HL.out.below HB1.out).at hil
      obtain ⟨t, Ht⟩ : ∃ t, Hid (t = l[i]) := ⟨_, Lib.hid rfl⟩
      rw [← Ht.out] at hact
      have HFin : Hid (tkFine t) := Lib.hid (by rw [Ht.out]; exact HF.out _ (List.getElem_mem _))
      have HNe : Hid (Tsk.needsAt l i = Tsk.needs t) := Lib.hid (by rw [Tsk.needsAt_get hil, Ht.out])
      have HHo : Hid (Tsk.hoursAt l i = t.hours) := Lib.hid (by rw [Tsk.hoursAt_get hil, Ht.out])
      have HFt : Hid (Tsk.fineTB n t = true) := Lib.hid (by rw [Hn.out, Ht.out]; exact HFine.out _ (List.getElem_mem _))
      have hhb := HHr.out i
      rw [HHo.out] at hhb
      obtain ⟨hh, sk, ba, af⟩ := t
      obtain ⟨c1, c2, c3, ao2, cap2, c4, hin2⟩ := hact
      simp only at c1 c2 c3 c4 hin2 hhb
      obtain ⟨mm, Hm⟩ : ∃ m, Hid (m = af.length) := ⟨_, Lib.hid rfl⟩
      rw [← Hm.out] at c4
      have hmm : (mm : Int) ≤ 9223372036854775807 := by have h0 : af.length ≤ 9223372036854775807 := HFin.out.1; have := Hm.out; omega
      have HIn := Lib.hid hin2
      have HC1 := Lib.hid c1
      have HBk := Lib.hid hbk
      have c4w : wr.cell? ⟨bk, off + i * 4 + 3, none⟩ = some (.slice ao2 mm cap2) := by rw [hBw.cell (p := ⟨bk, off + i * 4 + 3, none⟩) hbk]; exact c4
      have hrd : Tsk.readyB l (ord.take k) i = true := by
        rw [Hi.out]
        exact HPre.out k hko
      have HRd := Lib.hid (Tsk.readyB_iff.1 hrd)
      have hbd := HBd.out (ord.take k)
      have hkl : (ord.take k).length = k := by rw [List.length_take]; omega
      rw [hkl] at hbd
      have hxb : 0 ≤ x ∧ x ≤ 40000 := by rw [HX.out]; have := hbd.2; omega
      obtain ⟨EN, HEN⟩ : ∃ y, Hid (y = (Tsk.critF l (ord.take k)).1) := ⟨_, Lib.hid rfl⟩
      rw [← HEN.out] at HW hbd
      have HENl : Hid (EN.length = n) := Lib.hid (by rw [HEN.out, Tsk.critF_len, ← Hn.out])
      have HENb : Hid (∀ j, 0 ≤ EN.getD j 0 ∧ EN.getD j 0 ≤ 40000) := Lib.hid fun j => by have := hbd.1 j; omega
      have HENz : Hid (EN.getD i 0 = 0) := Lib.hid (by rw [HEN.out]; exact Tsk.critF_zero l _ _ HRd.out.1)
      clear hin2 hrd hbd hkl c1 c2 c3 c4 hbk hb3 hBw
      go_wp2
      obtain ⟨wo, rfl⟩ : ∃ y, y = wr := ⟨_, rfl⟩
      go_loopw [35] (fun q wr => ∃ j : Nat, j ≤ mm ∧ q = .int .i64 j ∧ Hid (Below g w1 wr ∧ Whole wr g 3 (intsC (EN.set i (Tsk.startOf EN ((Tsk.needs ⟨hh, sk, ba, af⟩).take j)))))) (fun q _ => mm - (intOf q).toNat)
      case atStart => exact ⟨0, by omega, rfl, Lib.hid ⟨HW.out.1, by
        have e : EN.set i (Tsk.startOf EN ((Tsk.needs ⟨hh, sk, ba, af⟩).take 0)) = EN := by
          show EN.set i 0 = EN
          exact set_same HENz.out
        rw [e]
        exact HW.out.2⟩⟩
      case round =>
        obtain ⟨j, hj, rfl, HV⟩ := hrel
        obtain ⟨S, HS⟩ : ∃ y, Hid (y = Tsk.startOf EN ((Tsk.needs ⟨hh, sk, ba, af⟩).take j)) := ⟨_, Lib.hid rfl⟩
        rw [← HS.out] at HV
        have hSb : 0 ≤ S ∧ S ≤ 40000 := by rw [HS.out]; exact Tsk.startOf_bd (by omega) HENb.out _
        have e1 : wr.cell? ⟨g, i, none⟩ = some (.int .i64 S) := by
          rw [HV.out.2.cell i, intsC_get (by rw [List.length_set, HENl.out]; exact hin), Tsk.getD_set, if_pos ⟨rfl, by rw [HENl.out]; exact hin⟩]
        have f1 := HV.out.2.frozen i
        have hBv : Below w1.heap.size w1 wr := by rw [← Hg.out]; exact HV.out.1
        by_cases hlt2 : j < mm
        · have hlt2' : (j : Int) < mm := by omega
          have hja : j < af.length := by rw [← Hm.out]; exact hlt2
          have h1 := Tsk.stepB_iff.1 (Tsk.fineB_iff.1 (Tsk.fineTB_iff.1 HFt.out).2 j hja)
          simp only at h1
          rw [Tsk.getD_get hja] at h1
          obtain ⟨y, hy⟩ : ∃ y : Nat, af[j] = (y : Int) := ⟨af[j].toNat, by omega⟩
          have hyn : y < n := by omega
          have hyn' : (y : Int) < n := by omega
          have hjn : j < (Tsk.needs ⟨hh, sk, ba, af⟩).length := by simpa [Tsk.needs] using hja
          have hny : (Tsk.needs ⟨hh, sk, ba, af⟩)[j] = y := by simp [Tsk.needs, hy]
          have hyi : ¬ i = y := by
            intro e
            have h2 := HRd.out.2 y (by rw [HNe.out, ← hny]; exact List.getElem_mem _)
            exact HRd.out.1 (e ▸ h2)
          obtain ⟨M, HMx⟩ : ∃ z, Hid (z = EN.getD y 0) := ⟨_, Lib.hid rfl⟩
          have e2 : wr.cell? ⟨g, y, none⟩ = some (.int .i64 M) := by
            rw [HV.out.2.cell y, intsC_get (by rw [List.length_set, HENl.out]; exact hyn), Tsk.getD_set, if_neg (fun hh => hyi hh.1), HMx.out]
          have HSn : Hid (max S M = Tsk.startOf EN ((Tsk.needs ⟨hh, sk, ba, af⟩).take (j + 1))) := Lib.hid (by
            rw [List.take_succ_eq_append_getElem hjn, Tsk.startOf_snoc, hny, HS.out, HMx.out])
          have hIn2 : IsInts wr ao2 af := HIn.out.below hBv
          obtain ⟨b4, o4, rfl, hb4, d4⟩ := hIn2.at hja
          rw [hy] at d4
          clear h1 hy hjn hny hyi hIn2 hb4
          go_wp2_with fail
          go_still_tail 12, (by kernel_rfl)
          repeat still_step
          try refine wpStill_nil ?_
          go_wp2
          go_roundw
          case rel => exact ⟨j + 1, by omega, by go_num, Lib.hid ⟨(Below.setCell HV.out.1 (p := ⟨g, i, none⟩) (Nat.le_refl _) _).drew, by
            rw [← HSn.out]
            have h2 := (HV.out.2.set i (.int .i64 (max S M))).drew
            rw [intsC_set, List.set_set] at h2
            exact h2⟩⟩
          case measure => simp [intOf]; omega
        · have HSe : Hid (S = Tsk.startOf EN (Tsk.needsAt l i)) := Lib.hid (by
            rw [HS.out, HNe.out, List.take_of_length_le (by have := Hm.out; simp [Tsk.needs]; omega)])
          have c1w : wr.cell? ⟨bk, off + i * 4, none⟩ = some (.int .i64 hh) := by rw [hBv.cell (p := ⟨bk, off + i * 4, none⟩) HBk.out]; exact HC1.out
          have hgl := HV.out.2.lt
          obtain rfl : mm = j := by omega
          have hwr : IntKind.i64.wrap (S + hh) = S + hh := IntWalk.i64_in _ (by omega)
          go_wp2_with fail
          go_still_tail 11, (by kernel_rfl)
          repeat still_step
          try refine wpStill_nil ?_
          clear hwr
          go_wp2
          go_roundw
          case rel => exact ⟨k + 1, by omega, by go_num, max x (S + hh), rfl, Lib.hid (by
            rw [Tsk.critF_take l ord hko]
            show _ = max _ _
            rw [← HX.out, ← HEN.out, ← Hi.out, ← HSe.out, HHo.out]), Lib.hid ⟨(Below.setCell HV.out.1 (p := ⟨g, i, none⟩) (Nat.le_refl _) _).drew, by
            have h2 := (HV.out.2.set i (.int .i64 (S + hh))).drew
            rw [intsC_set, List.set_set] at h2
            have e : (Tsk.critF l (ord.take (k + 1))).1 = EN.set i (S + hh) := by
              rw [Tsk.critF_take l ord hko]
              show List.set _ _ _ = _
              rw [← HEN.out, ← Hi.out, ← HSe.out, HHo.out]
            rw [e]
            exact h2⟩⟩
          case measure => simp [intOf]; omega
    · have HE : Hid (r = x) := Lib.hid (by
        rw [HRes.out, HX.out]
        rw [List.take_of_length_le (by rw [HLen.out]; omega)])
      obtain rfl : n = k := by omega
      go_wp2
      go_ret2
      refine ⟨by rw [HE.out] <;> rfl, ?_⟩
      have hBw : Below w1.heap.size w1 wr := by rw [← Hg.out]; exact HW.out.1
      exact below_step HB1.out hBw

end Go.Proofs.Ytejgbfaampllaaa
