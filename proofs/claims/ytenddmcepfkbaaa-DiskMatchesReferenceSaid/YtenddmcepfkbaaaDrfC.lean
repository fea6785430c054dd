/- The walks of the reference's disk: Fail. -/
import Derived.Test.YtenddmcepfkbaaaDrfB
namespace Go.Proofs.Ytenddmcepfkbaaa
open Go.RowKit
section
variable {n : Nat} {W W' : World} {b g gc : Nat} {pv : Value} {D : Dsk.Dk}

theorem rfail_off (h : IsRf n W b g gc pv D) (ho : D.off = true) (x y : Int) : Calls Try.prog 35 #[.pointer (some ⟨b, 0, none⟩), .int .i64 x, .int .i64 y] W fun e w' => e = .returned (.tuple #[]) ∧ W = w' := by
  have c2 := h.cells.2.2.1
  rw [ho] at c2
  simp only [Bool.not_true] at c2
  clear h ho
  go_enter Try.func35, Try.ntmps35
  go_wp2
  (try simp only [Exit.inBlock, Exit.then])
  refine bodyPost_ret (results_none rfl _ _ _) rfl ?_
  exact ⟨rfl, rfl⟩

/-- What the three stores at the end leave. -/
theorem rfail_end {W2 : World} {D2 : Dsk.Dk} (h1 : Only (foot b g pv) W W2) (h2 : IsRf n W2 b g gc pv D2) :
    LeftR n W b g gc pv { D2 with pd := [], off := true, armed := false } (((W2.setCell ⟨b, 1, none⟩ (.slice none 0 0)).setCell ⟨b, 2, none⟩ (.bool false)).setCell ⟨b, 3, none⟩ (.bool false)) := by
  have i1 := h2.dropped
  have i2 : IsRf n ((W2.setCell ⟨b, 1, none⟩ (.slice none 0 0)).setCell ⟨b, 2, none⟩ (.bool false)) b g gc (.slice none 0 0) { D2 with pd := [], off := true } := i1.store 2 _ rfl rfl rfl
  have i3 : IsRf n (((W2.setCell ⟨b, 1, none⟩ (.slice none 0 0)).setCell ⟨b, 2, none⟩ (.bool false)).setCell ⟨b, 3, none⟩ (.bool false)) b g gc (.slice none 0 0) { D2 with pd := [], off := true, armed := false } := i2.store 3 _ rfl rfl rfl
  exact ⟨.slice none 0 0, only_store (only_store (only_store h1 1 _) 2 _) 3 _, i3, fun k hk => by simp [Value.ownBlock] at hk⟩

theorem secS_torn {st : List UInt8} (h : st.length = 64 * n) {s : Nat} (hs : s < n) (t : ByteArray) (ht : t.size = 64) {M : Nat} (hM : M ≤ 64) :
    ∀ j, j < n → secS (Dsk.put st s (t.data.toList.take M)) j = if j = s then t.extract 0 M ++ (secS st s).extract M (secS st s).size else secS st j := by
  intro j hj
  have hl : t.data.toList.length = 64 := ht
  have hb := bytes_len h hs
  unfold secS
  rw [bytes_put h hs hj _ (by rw [List.length_take]; omega)]
  split
  · apply ByteArray.ext
    apply Array.ext'
    have e : (List.take M t.data.toList).length = M := by rw [List.length_take]; omega
    have e2 : (ByteArray.mk (Dsk.bytes st s).toArray).size = 64 := hb
    have h3 : (t.extract 0 M).data.toList = t.data.toList.take M := by simp
    have h4 : ((⟨(Dsk.bytes st s).toArray⟩ : ByteArray).extract M 64).data.toList = (Dsk.bytes st s).drop M := by
      have h5 : ((⟨(Dsk.bytes st s).toArray⟩ : ByteArray).extract M 64).data.toList = ((Dsk.bytes st s).drop M).take (64 - M) := by simp
      rw [h5, List.take_of_length_le (by rw [List.length_drop]; omega)]
    rw [e, e2, ByteArray.data_append, Array.toList_append, h3, h4]
  · rfl

theorem LeftR.more {D2 : Dsk.Dk} (h : LeftR n W b g gc pv D2 W') (o : Obj) : LeftR n W b g gc pv D2 (W'.alloc o) := by
  obtain ⟨p2, o2, i2, q2⟩ := h
  exact ⟨p2, o2.alloc o, i2.boxed o, q2⟩

set_option maxHeartbeats 2000000 in
theorem rfail_on (h : IsRf n W b g gc pv D) (ho : D.off = false) (x y : Int) : Calls Try.prog 35 #[.pointer (some ⟨b, 0, none⟩), .int .i64 x, .int .i64 y] W fun e w' => e = .returned (.tuple #[]) ∧ LeftR n W b g gc pv (Dsk.fail D x y) w' := by
  have H := Lib.hid h
  have c2 := h.cells.2.2.1
  rw [ho] at c2
  simp only [Bool.not_false] at c2
  have c1 := h.cells.2.1
  obtain ⟨ao, cap, hpv, hao⟩ := h.slice
  rw [hpv] at c1
  have HP := Lib.hid hpv
  have HA := Lib.hid hao
  obtain ⟨L, HL⟩ : ∃ L, Hid (L = D.pd.length) := ⟨_, Lib.hid rfl⟩
  obtain ⟨K, HK⟩ : ∃ K, Hid (K = Dsk.cl x D.pd.length) := ⟨_, Lib.hid rfl⟩
  obtain ⟨M, HM⟩ : ∃ M, Hid (M = Dsk.cl y 64) := ⟨_, Lib.hid rfl⟩
  have hKL : K ≤ D.pd.length := by rw [HK.out]; exact Dsk.cl_le _ _
  have hM : M ≤ 64 := by rw [HM.out]; exact Dsk.cl_le _ _
  have HS := Lib.hid (rsettle_any h K hKL)
  rw [← HL.out] at c1 hKL
  have hL : (L : Int) ≤ 1000000 := by have := h.ok.few; have := HL.out; omega
  obtain ⟨m1, Hm1⟩ : ∃ m, Hid (m = if (L : Int) < x then (L : Int) else x) := ⟨_, Lib.hid rfl⟩
  obtain ⟨m2, Hm2⟩ : ∃ m, Hid (m = if (64 : Int) < y then (64 : Int) else y) := ⟨_, Lib.hid rfl⟩
  have hmin1 := fun (ts : Array TypeId) (t : TypeId) (w : World) => run_min2 (P := Try.prog) ts t x L w
  have hmin2 := fun (ts : Array TypeId) (t : TypeId) (w : World) => run_min2 (P := Try.prog) ts t y 64 w
  rw [← Hm1.out] at hmin1
  rw [← Hm2.out] at hmin2
  have hmax1 : ∀ (ts : Array TypeId) (t : TypeId) (w : World), (Builtin.max_ ts t #[.int .i64 0, .int .i64 m1]).run Try.prog w = .ok (.int .i64 (K : Int)) w := fun ts t w => by
    rw [run_max2, Hm1.out, HL.out, cl_max, ← HK.out]
  have hmax2 : ∀ (ts : Array TypeId) (t : TypeId) (w : World), (Builtin.max_ ts t #[.int .i64 0, .int .i64 m2]).run Try.prog w = .ok (.int .i64 (M : Int)) w := fun ts t w => by
    rw [run_max2, Hm2.out]
    have := cl_max y 64
    rw [show ((64 : Nat) : Int) = 64 from rfl] at this
    rw [this, ← HM.out]
  have HF : Hid (Dsk.fail D x y = { D with st := Dsk.torn (Dsk.settle D.st (D.pd.take K)) D.pd K M, pd := [], off := true, armed := false }) := Lib.hid (by
    unfold Dsk.fail
    rw [ho, HK.out, HM.out]
    rfl)
  rw [HF.out]
  clear h ho hpv hao
  go_enter Try.func35, Try.ntmps35
  go_wp2_with fail
  refine HS.out.mono ?_
  rintro e w1 ⟨rfl, HR⟩
  have c1' := HR.out.2.cells.2.1
  rw [HP.out] at c1'
  have c1'' : w1.cell? ⟨b, 1, none⟩ = some (.slice ao L cap) := by rw [HL.out]; exact c1'
  have c2' := HR.out.2.cells.2.2.1
  have c3 := HR.out.2.cells.2.2.2.1
  have f1 := HR.out.2.frees 1
  have f2 := HR.out.2.frees 2
  have f3 := HR.out.2.frees 3
  clear c1 c1' c2 hmin1 hmax1
  by_cases hlt : K < L
  · have hlt' : (K : Int) < L := by omega
    have hjL : K < D.pd.length := by have := HL.out; omega
    obtain ⟨g', rfl⟩ := HA.out K hjL
    have hp := HR.out.2.pend HP.out K hjL
    have hm := H.out.ok.pd _ (List.getElem_mem hjL)
    obtain ⟨z, Hz⟩ : ∃ z, Hid (z = D.pd[K].1) := ⟨_, Lib.hid rfl⟩
    obtain ⟨t, Ht⟩ : ∃ z, Hid (z = D.pd[K].2) := ⟨_, Lib.hid rfl⟩
    have hp' : w1.cell? ⟨g', K * 2, none⟩ = some (.int .i64 (z : Nat)) ∧ w1.cell? ⟨g', K * 2 + 1, none⟩ = some (.string t) := by rw [Hz.out, Ht.out]; exact hp
    rw [← Hz.out, ← Ht.out] at hm
    obtain ⟨p1, p2⟩ := hp'
    obtain ⟨hx, ht⟩ := hm
    clear hp
    have HO1 : Hid (Only (foot b g pv) W (w1.alloc (.cells #[.int .i64 z, .string t] 73))) := Lib.hid (HR.out.1.alloc _)
    have HD1 : Hid (IsRf n (w1.alloc (.cells #[.int .i64 z, .string t] 73)) b g gc pv (upTo D K)) := Lib.hid (HR.out.2.grown ((Below.refl _ _).alloc (Nat.le_refl _) _))
    by_cases hM0 : 0 < M
    · have hM0' : (0 : Int) < M := by omega
      have q1 : (w1.alloc (.cells #[.int .i64 z, .string t] 73)).cell? ⟨w1.heap.size, 0, none⟩ = some (.int .i64 z) := by rw [cell_alloc, if_pos rfl]; rfl
      have q2 : (w1.alloc (.cells #[.int .i64 z, .string t] 73)).cell? ⟨w1.heap.size, 1, none⟩ = some (.string t) := by rw [cell_alloc, if_pos rfl]; rfl
      have HX := Lib.hid hx
      have HT := Lib.hid ht
      clear hx ht
      go_wp2_with fail
      obtain ⟨W1, HW1⟩ : ∃ W1, Hid (W1 = w1.alloc (.cells #[.int .i64 z, .string t] 73)) := ⟨_, Lib.hid rfl⟩
      rw [← HW1.out] at HO1 HD1 q1 q2 ⊢
      have d0 := HD1.out.cells.1
      have dz := HD1.out.stable.cell HX.out
      obtain ⟨X, HXX⟩ : ∃ X, Hid (X = secS (upTo D K).st z) := ⟨_, Lib.hid rfl⟩
      rw [← HXX.out] at dz
      have hXs : X.size = 64 := by rw [HXX.out]; exact secS_size HD1.out.ok.st HX.out
      have hz' : (z : Int) < n := by have := HX.out; omega
      have hMt : (M : Int) ≤ t.size := by have := HT.out; omega
      have hMX : (M : Int) ≤ X.size := by omega
      have hMt2 : M ≤ t.size := by have := HT.out; omega
      have hMX2 : M ≤ X.size := by omega
      have hn : (n : Int) ≤ 8000 := by have := H.out.ok.n2; omega
      have hlen : ¬ (9223372036854775807 < X.size) := by omega
      have hts : t.size ≤ 64 := by have := HT.out; omega
      have hXs2 : X.size ≤ 64 := by omega
      have HD2 : Hid (IsRf n W1.drew b g gc pv (upTo D K)) := Lib.hid (HD1.out.grown (Below.refl _ _).drew)
      have HST := Lib.hid (rset_any HD2.out z HX.out (t.extract 0 M ++ X.extract M X.size) (st' := Dsk.put (upTo D K).st z (t.data.toList.take M)) (by
        have h2 : t.data.toList.length = 64 := HT.out
        have h3 := HX.out
        rw [Dsk.put_len (by rw [List.length_take, HD1.out.ok.st]; omega)]; exact HD1.out.ok.st) (by
        rw [HXX.out]
        exact secS_torn HD1.out.ok.st HX.out t HT.out hM))
      clear c1'' c2' c3 f1 f2 f3 p1 p2 hXs
      go_still_tail 18, (by kernel_rfl)
      go_wp2_with fail
      refine HST.out.mono ?_
      rintro e w2 ⟨rfl, HR2⟩
      have d1 := HR2.out.2.cells.2.1
      have d2 := HR2.out.2.cells.2.2.1
      have d3 := HR2.out.2.cells.2.2.2.1
      have k1 := HR2.out.2.frees 1
      have k2 := HR2.out.2.frees 2
      have k3 := HR2.out.2.frees 3
      have HE := Lib.hid (rfail_end (HO1.out.trans ((Only.refl _ _).drew.trans HR2.out.1)) HR2.out.2)
      have HEQ : Hid (Dsk.put (upTo D K).st z (t.data.toList.take M) = Dsk.torn (Dsk.settle D.st (D.pd.take K)) D.pd K M) := Lib.hid (by
        unfold Dsk.torn
        rw [List.getElem?_eq_getElem hjL]
        show Dsk.put (upTo D K).st z _ = Dsk.put _ D.pd[K].1 (D.pd[K].2.data.toList.take M)
        rw [← Hz.out, ← Ht.out]
        rfl)
      clear q1 q2 d0 dz
      go_wp2
      go_end0
      refine ⟨rfl, ?_⟩
      rw [← HEQ.out]
      exact HE.out
    · have hM0' : ¬ (0 : Int) < M := by omega
      have HE := Lib.hid ((rfail_end HR.out.1 HR.out.2).more (.cells #[.int .i64 z, .string t] 73))
      have HEQ : Hid (Dsk.settle D.st (D.pd.take K) = Dsk.torn (Dsk.settle D.st (D.pd.take K)) D.pd K M) := Lib.hid (by
        unfold Dsk.torn
        rw [List.getElem?_eq_getElem hjL]
        show _ = Dsk.put _ D.pd[K].1 (D.pd[K].2.data.toList.take M)
        have h0 : M = 0 := by omega
        rw [h0, List.take_zero, put_nil])
      have hbl := HR.out.2.whole.lt
      have hMle : (M : Int) ≤ 0 := by omega
      clear hx ht
      go_wp2
      go_end0
      refine ⟨rfl, ?_⟩
      rw [← HEQ.out]
      exact HE.out
  · have hlt' : ¬ (K : Int) < L := by omega
    have e : Dsk.torn (Dsk.settle D.st (D.pd.take K)) D.pd K M = Dsk.settle D.st (D.pd.take K) := by
      unfold Dsk.torn
      rw [List.getElem?_eq_none (by have := HL.out; omega)]
    have HT := Lib.hid e
    have HE := Lib.hid (rfail_end HR.out.1 HR.out.2)
    clear e
    go_wp2
    go_end0
    exact ⟨rfl, by rw [HT.out]; exact HE.out⟩

theorem rfail_any (h : IsRf n W b g gc pv D) (x y : Int) : Calls Try.prog 35 #[.pointer (some ⟨b, 0, none⟩), .int .i64 x, .int .i64 y] W fun e w' => e = .returned (.tuple #[]) ∧ LeftR n W b g gc pv (Dsk.fail D x y) w' := by
  cases ho : D.off
  · exact rfail_on h ho x y
  · have e : Dsk.fail D x y = D := by unfold Dsk.fail; rw [ho]; rfl
    rw [e]
    exact (rfail_off h ho x y).mono fun e w' ⟨h1, h2⟩ => ⟨h1, h2 ▸ LeftR.same h (Below.refl _ _)⟩
end

end Go.Proofs.Ytenddmcepfkbaaa
