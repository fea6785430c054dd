/- The walks of package disk: Fail. -/
import Derived.Test.YtenddmcepfkbaaaDskWalksC
namespace Go.Proofs.Ytenddmcepfkbaaa
open Go.RowKit

/-- The builtin min and max of two numbers. -/
theorem run_min2 {P : Program} (ts : Array TypeId) (t : TypeId) (a b : Int) (w : World) : (Builtin.min_ ts t #[.int .i64 a, .int .i64 b]).run P w = .ok (.int .i64 (if b < a then b else a)) w := by
  simp [Builtin.min_, Builtin.min2] <;> rfl
theorem run_max2 {P : Program} (ts : Array TypeId) (t : TypeId) (a b : Int) (w : World) : (Builtin.max_ ts t #[.int .i64 a, .int .i64 b]).run P w = .ok (.int .i64 (if a < b then b else a)) w := by
  simp [Builtin.max_, Builtin.max2] <;> rfl
theorem cl_max (k : Int) (m : Nat) : (if (0 : Int) < (if (m : Int) < k then (m : Int) else k) then (if (m : Int) < k then (m : Int) else k) else 0) = (Dsk.cl k m : Int) := by
  have h := Dsk.cl_cases k m
  split <;> split at * <;> omega

section
variable {n : Nat} {W W' : World} {b bs : Nat} {pv : Value} {D : Dsk.Dk}

/-- The pending writes are dropped. -/
theorem IsDisk.dropped (h : IsDisk n W b bs pv D) : IsDisk n (W.setCell ⟨b, 1, none⟩ (.slice none 0 0)) b bs (.slice none 0 0) { D with pd := [] } :=
  ⟨h.whole.set 1 _, h.stable.far (p := ⟨b, 1, none⟩) (fun e => h.apart e.symm) _, World.ownsRow_nil _ _ _ _, ⟨h.ok.st, by simp, h.ok.n1, h.ok.n2, by simp⟩⟩

theorem fail_nil (x y : Int) (w : World) : Calls Try.prog 25 #[.pointer none, .int .i64 x, .int .i64 y] w fun e w' => e = .returned (.tuple #[]) ∧ w = w' := by
  go_enter Try.func25, Try.ntmps25
  go_wp2_with fail
  refine (hind_nil _).mono ?_
  rintro e _ ⟨rfl, rfl⟩
  go_wp2
  (try simp only [Exit.inBlock, Exit.then])
  refine bodyPost_ret (results_none rfl _ _ _) rfl ?_
  exact ⟨rfl, rfl⟩

theorem fail_off (h : IsDisk n W b bs pv D) (ho : D.off = true) (x y : Int) : Calls Try.prog 25 #[.pointer (some ⟨b, 0, none⟩), .int .i64 x, .int .i64 y] W fun e w' => e = .returned (.tuple #[]) ∧ W = w' := by
  have HO := Lib.hid (hind_off h ho)
  clear h ho
  go_enter Try.func25, Try.ntmps25
  go_wp2_with fail
  refine HO.out.mono ?_
  rintro e _ ⟨rfl, rfl⟩
  go_wp2
  (try simp only [Exit.inBlock, Exit.then])
  refine bodyPost_ret (results_none rfl _ _ _) rfl ?_
  exact ⟨rfl, rfl⟩

/-- What the three stores at the end leave. -/
theorem fail_end {W2 : World} {D2 : Dsk.Dk} (h1 : Only (foot b bs pv) W W2) (h2 : IsDisk n W2 b bs pv D2) :
    Left n W b bs pv { D2 with pd := [], off := true, armed := false } (((W2.setCell ⟨b, 1, none⟩ (.slice none 0 0)).setCell ⟨b, 2, none⟩ (.bool true)).setCell ⟨b, 3, none⟩ (.bool false)) := by
  have i1 := h2.dropped
  have i2 : IsDisk n ((W2.setCell ⟨b, 1, none⟩ (.slice none 0 0)).setCell ⟨b, 2, none⟩ (.bool true)) b bs (.slice none 0 0) { D2 with pd := [], off := true } := i1.store 2 _ rfl rfl rfl
  have i3 : IsDisk n (((W2.setCell ⟨b, 1, none⟩ (.slice none 0 0)).setCell ⟨b, 2, none⟩ (.bool true)).setCell ⟨b, 3, none⟩ (.bool false)) b bs (.slice none 0 0) { D2 with pd := [], off := true, armed := false } := i2.store 3 _ rfl rfl rfl
  exact ⟨.slice none 0 0, only_store (only_store (only_store h1 1 _) 2 _) 3 _, i3, fun k hk => by simp [Value.ownBlock] at hk⟩

set_option maxHeartbeats 1000000 in
theorem fail_on (h : IsDisk n W b bs pv D) (ho : D.off = false) (x y : Int) : Calls Try.prog 25 #[.pointer (some ⟨b, 0, none⟩), .int .i64 x, .int .i64 y] W fun e w' => e = .returned (.tuple #[]) ∧ Left n W b bs pv (Dsk.fail D x y) w' := by
  have HO := Lib.hid (hind_on h ho)
  have H := Lib.hid h
  have c1 := h.cells.2.1
  obtain ⟨ao, cap, hpv, hao⟩ := h.slice
  rw [hpv] at c1
  have HP := Lib.hid hpv
  have HA := Lib.hid hao
  obtain ⟨L, HL⟩ : ∃ L, Hid (L = D.pd.length) := ⟨_, Lib.hid rfl⟩
  obtain ⟨K, HK⟩ : ∃ K, Hid (K = Dsk.cl x D.pd.length) := ⟨_, Lib.hid rfl⟩
  obtain ⟨M, HM⟩ : ∃ M, Hid (M = Dsk.cl y 64) := ⟨_, Lib.hid rfl⟩
  have hKL : K ≤ D.pd.length := by rw [HK.out]; exact Dsk.cl_le _ _
  have hM : M ≤ 64 := by rw [HM.out]; exact Dsk.cl_le _ _
  have HS := Lib.hid (settle_any h K hKL)
  rw [← HL.out] at c1 hKL
  have hL : (L : Int) ≤ 1000000 := by have := h.ok.few; have := HL.out; omega
  obtain ⟨m1, Hm1⟩ : ∃ m, Hid (m = if (L : Int) < x then (L : Int) else x) := ⟨_, Lib.hid rfl⟩
  obtain ⟨m2, Hm2⟩ : ∃ m, Hid (m = if (64 : Int) < y then (64 : Int) else y) := ⟨_, Lib.hid rfl⟩
  have hmin1 := fun (ts : Array TypeId) (t : TypeId) (w : World) => run_min2 (P := Try.prog) ts t x L w
  have hmin2 := fun (ts : Array TypeId) (t : TypeId) (w : World) => run_min2 (P := Try.prog) ts t y 64 w
  rw [← Hm1.out] at hmin1
  rw [← Hm2.out] at hmin2
  have hmax1 : ∀ (ts : Array TypeId) (t : TypeId) (w : World), (Builtin.max_ ts t #[.int .i64 0, .int .i64 m1]).run Try.prog w = .ok (.int .i64 (K : Int)) w := fun ts t w => by
    rw [run_max2, Hm1.out, HL.out, cl_max, ← HK.out]
  have hmax2 : ∀ (ts : Array TypeId) (t : TypeId) (w : World), (Builtin.max_ ts t #[.int .i64 0, .int .i64 m2]).run Try.prog w = .ok (.int .i64 (M : Int)) w := fun ts t w => by
    rw [run_max2, Hm2.out]
    have := cl_max y 64
    rw [show ((64 : Nat) : Int) = 64 from rfl] at this
    rw [this, ← HM.out]
  have HF : Hid (Dsk.fail D x y = { D with st := Dsk.torn (Dsk.settle D.st (D.pd.take K)) D.pd K M, pd := [], off := true, armed := false }) := Lib.hid (by
    unfold Dsk.fail
    rw [ho, HK.out, HM.out]
    rfl)
  have HOff := Lib.hid ho
  rw [HF.out]
  clear h ho hpv hao
  go_enter Try.func25, Try.ntmps25
  go_wp2_with fail
  refine HO.out.mono ?_
  rintro e _ ⟨rfl, rfl⟩
  go_wp2_with fail
  refine HS.out.mono ?_
  rintro e w1 ⟨rfl, HR⟩
  have c1' := HR.out.2.cells.2.1
  rw [HP.out] at c1'
  have c1'' : w1.cell? ⟨b, 1, none⟩ = some (.slice ao L cap) := by rw [HL.out]; exact c1'
  have c2 := HR.out.2.cells.2.2.1
  have c3 := HR.out.2.cells.2.2.2.1
  have f1 := HR.out.2.frees 1
  have f2 := HR.out.2.frees 2
  have f3 := HR.out.2.frees 3
  clear c1 c1' hmin1 hmin2 hmax1 hmax2
  by_cases hlt : K < L
  · have hlt' : (K : Int) < L := by omega
    have hjL : K < D.pd.length := by have := HL.out; omega
    obtain ⟨g, rfl⟩ := HA.out K hjL
    have hp := HR.out.2.pend HP.out K hjL
    have hm := H.out.ok.pd _ (List.getElem_mem hjL)
    obtain ⟨z, Hz⟩ : ∃ z, Hid (z = D.pd[K].1) := ⟨_, Lib.hid rfl⟩
    obtain ⟨t, Ht⟩ : ∃ z, Hid (z = D.pd[K].2) := ⟨_, Lib.hid rfl⟩
    have hp' : w1.cell? ⟨g, K * 2, none⟩ = some (.int .i64 (z : Nat)) ∧ w1.cell? ⟨g, K * 2 + 1, none⟩ = some (.string t) := by rw [Hz.out, Ht.out]; exact hp
    rw [← Hz.out, ← Ht.out] at hm
    obtain ⟨p1, p2⟩ := hp'
    obtain ⟨hx, ht⟩ := hm
    clear hp
    have hO1 : Only (foot b bs pv) W (w1.alloc (.cells #[.int .i64 z, .string t] 70)) := HR.out.1.alloc _
    have hD1 : IsDisk n (w1.alloc (.cells #[.int .i64 z, .string t] 70)) b bs pv (upTo D K) := HR.out.2.grown ((Below.refl _ _).alloc (Nat.le_refl _) _)
    have q1 : (w1.alloc (.cells #[.int .i64 z, .string t] 70)).cell? ⟨w1.heap.size, 0, none⟩ = some (.int .i64 z) := by rw [cell_alloc, if_pos rfl]; rfl
    have q2 : (w1.alloc (.cells #[.int .i64 z, .string t] 70)).cell? ⟨w1.heap.size, 1, none⟩ = some (.string t) := by rw [cell_alloc, if_pos rfl]; rfl
    go_wp2_with fail
    obtain ⟨W1, HW1⟩ : ∃ W1, Hid (W1 = w1.alloc (.cells #[.int .i64 z, .string t] 70)) := ⟨_, Lib.hid rfl⟩
    rw [← HW1.out] at hO1 hD1 q1 q2 ⊢
    have HD2 : Hid (IsDisk n W1.drew b bs pv (upTo D K)) := Lib.hid (hD1.grown (Below.refl _ _).drew)
    have HO2 : Hid (Only (foot b bs pv) W W1.drew) := Lib.hid hO1.drew
    have hby := bytes_any HD2.out z hx
    obtain ⟨cp, Hcp⟩ : ∃ cp, Hid (cp = 64 * n - 64 * z) := ⟨_, Lib.hid rfl⟩
    rw [← Hcp.out] at hby
    have HBy := Lib.hid hby
    have hst := HD2.out.ok.st
    have hsz : (t.extract 0 M).size = M := by rw [ByteArray.size_extract]; omega
    have htk : (t.extract 0 M).data.toList = t.data.toList.take M := by simp
    have hcopy := Lib.run_copy_row_string (P := Try.prog) W1.drew 56 9 3 5 bs (64 * z) 64 cp (t.extract 0 M) (stC (upTo D K).st) 5 Try.underlying56 info_u8s HD2.out.stable (by omega) (by rw [stC_size]; omega)
    have HC2 : Hid (IsDisk n (W1.drew.setRow bs ((stC (upTo D K).st).toList.take (64 * z) ++ Lib.byteCells (t.extract 0 M).data.toList ++ (stC (upTo D K).st).toList.drop (64 * z + (t.extract 0 M).size)).toArray) b bs pv { upTo D K with st := Dsk.torn (Dsk.settle D.st (D.pd.take K)) D.pd K M }) := Lib.hid (by
      have hl : (t.extract 0 M).data.toList.length = (t.extract 0 M).size := rfl
      have h1 := HD2.out.copied z (t.extract 0 M).data.toList (by omega)
      have e : Dsk.put (upTo D K).st z (t.extract 0 M).data.toList = Dsk.torn (Dsk.settle D.st (D.pd.take K)) D.pd K M := by
        unfold Dsk.torn
        rw [List.getElem?_eq_getElem hjL]
        show Dsk.put (upTo D K).st z _ = Dsk.put _ D.pd[K].1 (D.pd[K].2.data.toList.take M)
        rw [← Hz.out, ← Ht.out, ← htk]
        rfl
      rw [e] at h1
      exact h1)
    have HO3 : Hid (Only (foot b bs pv) W (W1.drew.setRow bs ((stC (upTo D K).st).toList.take (64 * z) ++ Lib.byteCells (t.extract 0 M).data.toList ++ (stC (upTo D K).st).toList.drop (64 * z + (t.extract 0 M).size)).toArray)) := Lib.hid (only_row HO2.out _)
    obtain ⟨CS, HCS⟩ : ∃ CS, Hid (CS = ((stC (upTo D K).st).toList.take (64 * z) ++ Lib.byteCells (t.extract 0 M).data.toList ++ (stC (upTo D K).st).toList.drop (64 * z + (t.extract 0 M).size)).toArray) := ⟨_, Lib.hid rfl⟩
    rw [← HCS.out] at hcopy HC2 HO3
    obtain ⟨W2, HW2⟩ : ∃ W2, Hid (W2 = W1.drew.setRow bs CS) := ⟨_, Lib.hid rfl⟩
    rw [← HW2.out] at hcopy HC2 HO3
    have d1 := HC2.out.cells.2.1
    have d2 := HC2.out.cells.2.2.1
    have d3 := HC2.out.cells.2.2.2.1
    have k1 := HC2.out.frees 1
    have k2 := HC2.out.frees 2
    have k3 := HC2.out.frees 3
    have hM' : (M : Int) ≤ t.size := by omega
    have HE := Lib.hid (fail_end HO3.out HC2.out)
    clear hby hst hO1 hD1 hx hsz htk c1'' c2 c3 f1 f2 f3 ht hM
    go_still_tail 9, (by kernel_rfl)
    repeat still_step
    still_call (still_of HBy.out)
    repeat still_step
    refine wpStill_nil ?_
    go_wp2
    go_end0
    exact ⟨rfl, HE.out⟩
  · have hlt' : ¬ (K : Int) < L := by omega
    have e : Dsk.torn (Dsk.settle D.st (D.pd.take K)) D.pd K M = Dsk.settle D.st (D.pd.take K) := by
      unfold Dsk.torn
      rw [List.getElem?_eq_none (by have := HL.out; omega)]
    have HT := Lib.hid e
    have HE := Lib.hid (fail_end HR.out.1 HR.out.2)
    clear e
    go_wp2
    go_end0
    exact ⟨rfl, by rw [HT.out]; exact HE.out⟩

theorem fail_any (h : IsDisk n W b bs pv D) (x y : Int) : Calls Try.prog 25 #[.pointer (some ⟨b, 0, none⟩), .int .i64 x, .int .i64 y] W fun e w' => e = .returned (.tuple #[]) ∧ Left n W b bs pv (Dsk.fail D x y) w' := by
  cases ho : D.off
  · exact fail_on h ho x y
  · have e : Dsk.fail D x y = D := by unfold Dsk.fail; rw [ho]; rfl
    rw [e]
    exact (fail_off h ho x y).mono fun e w' ⟨h1, h2⟩ => ⟨h1, h2 ▸ Left.same h (Below.refl _ _)⟩
end

end Go.Proofs.Ytenddmcepfkbaaa
