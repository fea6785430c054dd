/- The walks of the reference's disk: New, settle, Fail. -/
import Derived.Test.YtenddmcepfkbaaaDrfA
namespace Go.Proofs.Ytenddmcepfkbaaa
open Go.RowKit

def zeroT : ByteArray := ⟨(List.replicate 64 (0 : UInt8)).toArray⟩
theorem secS_zero {n s : Nat} (hs : s < n) : secS (Dsk.zero n).st s = zeroT := by
  unfold secS zeroT Dsk.bytes Dsk.zero
  congr 2
  simp only [List.drop_replicate, List.take_replicate]
  congr 1
  omega

set_option maxHeartbeats 1000000 in
theorem rnew_any (n : Nat) (h1 : 1 ≤ n) (h2 : n ≤ 8000) (w : World) : Calls Try.prog 15 #[.int .i64 n] w fun e w' =>
    ∃ b, e = .returned (.pointer (some ⟨b, 0, none⟩)) ∧ Below w.heap.size w w' ∧ w.heap.size ≤ b ∧ ∃ g gc, w.heap.size ≤ g ∧ IsRf n w' b g gc (.slice none 0 0) (Dsk.zero n) := by
  obtain ⟨i1, hi1, hy0, hy1, hy2⟩ := info_parts info_rstr
  have g1 : ¬ (n : Int) < 1 := by omega
  have g2 : ¬ (8000 : Int) < n := by omega
  have hn : (n : Int) ≤ 8000 := by omega
  obtain ⟨Z, HZ⟩ : ∃ Z, Hid (Z = zeroT) := ⟨_, Lib.hid rfl⟩
  have HZa : Hid (∀ w, Calls Try.prog 32 #[.int .i64 64] w fun e w' => e = .returned (.string Z) ∧ w = w') := Lib.hid fun w => by rw [HZ.out]; exact rzero_any w
  have H1 := Lib.hid h1
  have H2 := Lib.hid h2
  clear h1 h2
  go_enter Try.func15, Try.ntmps15
  go_wp2_with fail
  refine (HZa.out _).mono ?_
  rintro e _ ⟨rfl, rfl⟩
  go_wp2
  go_loopw [5] (fun i wr => ∃ k : Nat, k ≤ n ∧ i = .int .i64 k ∧ ∃ ao cap, Hid (Below w.heap.size w wr ∧ Whole wr w.heap.size 64 #[.slice ao k cap, .slice none 0 0, .bool true, .bool false, .int .i64 0, .int .i64 0, .int .i64 0] ∧ wr.ownsRow w.heap.size 9 1 (.slice ao k cap) k (List.replicate k (.string Z)))) (fun i _ => n - (intOf i).toNat)
  case atStart => exact ⟨0, by omega, rfl, none, 0, Lib.hid ⟨(Below.refl _ _).alloc (Nat.le_refl _) _, Whole.new _ _ _, World.ownsRow_nil _ _ _ _⟩⟩
  case round =>
    obtain ⟨k, hk, rfl, ao, cap, HR⟩ := hrel
    by_cases hlt : k < n
    · have hlt' : (k : Int) < n := by omega
      have c0 : wr.cell? ⟨w.heap.size, 0, none⟩ = some (.slice ao k cap) := HR.out.2.1.cell 0
      have f0 := HR.out.2.1.frozen 0
      have hbl := HR.out.2.1.lt
      have HN : Hid (∀ (i : Nat) (u : Value), [Value.string Z][i]? = some u → (wr.alloc (.cells #[.string Z] 9)).cell? ((⟨wr.heap.size, 0, none⟩ : Addr).add i) = some u) := Lib.hid (by
        intro i u hu
        have e : (⟨wr.heap.size, 0, none⟩ : Addr).add i = ⟨wr.heap.size, i, none⟩ := by unfold Addr.add; split <;> simp_all
        rw [e, cell_alloc, if_pos rfl]
        simpa using hu)
      have HK : Hid (∀ w2 : World, (wr.alloc (.cells #[.string Z] 9)).grownBy w2 (Value.slice ao k cap).ownBlock → w2.cell? ⟨w.heap.size, 0, none⟩ = some (.slice ao k cap) ∧ w2.frozen? ⟨w.heap.size, 0, none⟩ = false ∧ Whole w2 w.heap.size 64 #[.slice ao k cap, .slice none 0 0, .bool true, .bool false, .int .i64 0, .int .i64 0, .int .i64 0]) := Lib.hid (fun w2 hg => by
        have hne : (Value.slice ao k cap).ownBlock ≠ some w.heap.size := owns_whole HR.out.2.2 HR.out.2.1 (by decide)
        have hw : Whole w2 w.heap.size 64 _ := (hg.block w.heap.size (by rw [size_alloc]; omega) (fun hh => hne hh.symm)).trans (HR.out.2.1.alloc _)
        exact ⟨hw.cell 0, hw.frozen 0, hw⟩)
      go_wp2_with (at_builtin; refine wpList_append_own _ rfl _ _ 39 rfl w.heap.size 9 i1 (.string ⟨#[]⟩) 1 16 Try.underlying39 hi1 hy0 hy1 hy2 rfl (by decide) _ _ _ rfl (HR.out.2.2.alloc _) ⟨wr.heap.size, 0, none⟩ 1 1 [.string Z] rfl rfl HN.out (by simp [Value.oneCell']) (by unfold maxLen; omega) (by omega) (by rw [size_alloc]; omega) ?_; intro v' w2 hown hgrow _; obtain ⟨g', cap', rfl⟩ := owns_succ hown; have HW2 := Lib.hid hown; have HG2 := Lib.hid hgrow; obtain ⟨c0', f0', hw2⟩ := HK.out w2 hgrow; have HWh := Lib.hid hw2; clear hown hgrow hw2)
      go_roundw
      case rel =>
        refine ⟨k + 1, by omega, by go_num, some ⟨g', 0, none⟩, cap', Lib.hid ⟨?_, ?_, ?_⟩⟩
        · refine Below.setCell ?_ (p := ⟨w.heap.size, 0, none⟩) (Nat.le_refl _) _
          exact (HR.out.1.alloc HR.out.1.size _).grown HG2.out (by rw [size_alloc]; omega) (fun j e => (HR.out.2.2.lt j e).1)
        · exact HWh.out.set 0 _
        · rw [List.replicate_succ']
          exact HW2.out.kept (row := some w.heap.size) ⟨rfl, rfl, rfl, by simp, fun k _ hk => Below.heap_setCell _ _ _ _ (fun e => hk (by rw [e]))⟩ (Or.inr (owns_whole HW2.out HWh.out (by decide)))
      case measure => simp [intOf]; omega
    · obtain rfl : k = n := by omega
      go_wp2
      go_ret
      obtain ⟨hb, hw, ho⟩ := HR.out
      obtain ⟨m, rfl⟩ : ∃ m, k = m + 1 := ⟨k - 1, by have := H1.out; omega⟩
      obtain ⟨g', cap', hv⟩ := owns_succ ho
      rw [hv] at ho hw
      refine ⟨w.heap.size, rfl, hb, Nat.le_refl _, g', cap', (ho.lt g' rfl).1, ⟨hw, ?_, World.ownsRow_nil _ _ _ _, Dsk.zero_ok H1.out H2.out⟩⟩
      rcases ho.2 with ⟨hh, _⟩ | ⟨g2, cap2, cur, hv2, _, hc, _, hle, hcs, htk⟩
      · simp at hh
      · simp only [Value.slice.injEq, Option.some.injEq, Addr.mk.injEq, and_true] at hv2
        obtain ⟨rfl, -, rfl⟩ := hv2
        refine ⟨cur, hc, by rw [hcs]; omega, fun s hs => ?_⟩
        rw [secS_zero hs, ← HZ.out]
        have h3 : (cur.toList.take ((m + 1) * 1))[s]? = some (.string Z) := by rw [htk, List.getElem?_replicate, if_pos hs]
        rw [List.getElem?_take, if_pos (by omega)] at h3
        simpa using h3

section
variable {n : Nat} {W W' : World} {b g gc : Nat} {pv : Value} {D : Dsk.Dk}

set_option maxHeartbeats 1000000 in
theorem rsettle_any (h : IsRf n W b g gc pv D) (k : Nat) (hk : k ≤ D.pd.length) : Calls Try.prog 46 #[.pointer (some ⟨b, 0, none⟩), .int .i64 k] W fun e w' => e = .returned (.tuple #[]) ∧ Hid (Only (foot b g pv) W w' ∧ IsRf n w' b g gc pv (upTo D k)) := by
  have H := Lib.hid h
  obtain ⟨ao, cap, hpv, hao⟩ := h.slice
  have HP := Lib.hid hpv
  have HA := Lib.hid hao
  obtain ⟨L, HL⟩ : ∃ L, Hid (L = D.pd.length) := ⟨_, Lib.hid rfl⟩
  rw [← HL.out] at hk
  have hL : (L : Int) ≤ 1000000 := by have := h.ok.few; have := HL.out; omega
  have hkL : (k : Int) ≤ L := by omega
  clear h hpv hao
  go_enter Try.func46, Try.ntmps46
  go_wp2
  go_loopw [4] (fun i wr => ∃ j : Nat, j ≤ k ∧ i = .int .i64 j ∧ Hid (Only (foot b g pv) W wr ∧ IsRf n wr b g gc pv (upTo D j))) (fun i _ => k - (intOf i).toNat)
  case atStart => exact ⟨0, by omega, rfl, Lib.hid ⟨Only.refl _ _, by rw [upTo_zero]; exact H.out⟩⟩
  case round =>
    obtain ⟨j, hj, rfl, HR⟩ := hrel
    by_cases hlt : j < k
    · have hlt' : (j : Int) < k := by omega
      have hjL : j < D.pd.length := by have := HL.out; omega
      have hjL' : (j : Int) < L := by omega
      obtain ⟨g', rfl⟩ := HA.out j hjL
      have c1 := HR.out.2.cells.2.1
      rw [HP.out, ← HL.out] at c1
      have hp := HR.out.2.pend HP.out j hjL
      have hm := H.out.ok.pd _ (List.getElem_mem hjL)
      obtain ⟨x, Hx⟩ : ∃ x, Hid (x = D.pd[j].1) := ⟨_, Lib.hid rfl⟩
      obtain ⟨t, Ht⟩ : ∃ x, Hid (x = D.pd[j].2) := ⟨_, Lib.hid rfl⟩
      have hp' : wr.cell? ⟨g', j * 2, none⟩ = some (.int .i64 (x : Nat)) ∧ wr.cell? ⟨g', j * 2 + 1, none⟩ = some (.string t) := by rw [Hx.out, Ht.out]; exact hp
      rw [← Hx.out, ← Ht.out] at hm
      obtain ⟨p1, p2⟩ := hp'
      have hst := HR.out.2.ok.st
      have HD : Hid (IsRf n wr.drew b g gc pv (upTo D j)) := Lib.hid (HR.out.2.grown (Below.refl _ _).drew)
      have HS := Lib.hid (rset_any HD.out x hm.1 t (st' := Dsk.put (upTo D j).st x t.data.toList) (by rw [Dsk.put_len (by have : t.data.toList.length = t.size := rfl; omega)]; exact hst) (secS_put hst hm.1 t hm.2))
      clear hp hm hst
      go_wp2_with fail
      go_still_tail 17, (by kernel_rfl)
      repeat still_step
      try refine wpStill_nil ?_
      go_wp2_with fail
      refine HS.out.mono ?_
      rintro e w1 ⟨rfl, HR2⟩
      go_wp2
      go_roundw
      case rel =>
        refine ⟨j + 1, by omega, by go_num, Lib.hid ⟨?_, ?_⟩⟩
        · exact HR.out.1.trans ((Only.refl _ _).drew.trans HR2.out.1)
        · rw [upTo_succ D j hjL, ← Hx.out, ← Ht.out]
          exact HR2.out.2
      case measure => simp [intOf]; omega
    · obtain rfl : j = k := by omega
      go_wp2
      go_end0
      exact ⟨rfl, HR⟩
end

end Go.Proofs.Ytenddmcepfkbaaa
