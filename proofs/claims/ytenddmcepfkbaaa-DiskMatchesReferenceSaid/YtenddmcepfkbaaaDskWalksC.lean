/- The walks of package disk: bytes that rot, writes that settle, the power's failure. -/
import Derived.Test.YtenddmcepfkbaaaDskWalksB
import Derived.StillTailTactics
namespace Go.Proofs.Ytenddmcepfkbaaa
open Go.RowKit

section
variable {n : Nat} {W W' : World} {b bs : Nat} {pv : Value} {D : Dsk.Dk}

/-- A text copied over the bytes from a sector's start on. -/
theorem IsDisk.copied (h : IsDisk n W b bs pv D) (s : Nat) (t : List UInt8) (hfit : 64 * s + t.length ≤ 64 * n) :
    IsDisk n (W.setRow bs ((stC D.st).toList.take (64 * s) ++ Lib.byteCells t ++ (stC D.st).toList.drop (64 * s + t.length)).toArray) b bs pv { D with st := Dsk.put D.st s t } := by
  have hl : (Dsk.put D.st s t).length = D.st.length := Dsk.put_len (by rw [h.ok.st]; exact hfit)
  refine ⟨(setRow_other W bs b _ h.apart).trans h.whole, ?_, ?_, ⟨by show (Dsk.put D.st s t).length = _; rw [hl]; exact h.ok.st, h.ok.pd, h.ok.n1, h.ok.n2, h.ok.few⟩⟩
  · rw [← stC_put]
    exact setRow_heap W bs _ _ _ _ h.stable
  · exact h.row.kept (row := some bs) ⟨rfl, rfl, rfl, by simp, fun k _ hk => setRow_other W bs k _ (fun e => hk (by rw [e]))⟩ (Or.inr h.pvs)
theorem only_row (h : Only (foot b bs pv) W W') (cs : Array Value) : Only (foot b bs pv) W (W'.setRow bs cs) :=
  h.next (G := fun k => k = bs) ⟨rfl, rfl, rfl, by simp, fun k _ hk => setRow_other _ bs k _ hk⟩ (by rintro k rfl; exact Or.inl (Or.inr (Or.inl rfl)))

theorem info_u8s : (Try.prog.info? 5).map (·.size) = some 1 := by kernel_rfl

/-- The settled disk after k of the pending writes. -/
def upTo (D : Dsk.Dk) (k : Nat) : Dsk.Dk := { D with st := Dsk.settle D.st (D.pd.take k) }
theorem upTo_zero (D : Dsk.Dk) : upTo D 0 = D := by cases D; rfl
theorem upTo_succ (D : Dsk.Dk) (k : Nat) (h : k < D.pd.length) : upTo D (k + 1) = { upTo D k with st := Dsk.put (upTo D k).st D.pd[k].1 D.pd[k].2.data.toList } := by
  unfold upTo
  rw [List.take_succ_eq_append_getElem h, Dsk.settle_snoc]

set_option maxHeartbeats 1000000 in
theorem settle_any (h : IsDisk n W b bs pv D) (k : Nat) (hk : k ≤ D.pd.length) : Calls Try.prog 44 #[.pointer (some ⟨b, 0, none⟩), .int .i64 k] W fun e w' => e = .returned (.tuple #[]) ∧ Hid (Only (foot b bs pv) W w' ∧ IsDisk n w' b bs pv (upTo D k)) := by
  have H := Lib.hid h
  have c1 := h.cells.2.1
  obtain ⟨ao, cap, hpv, hao⟩ := h.slice
  rw [hpv] at c1
  have HP := Lib.hid hpv
  have HA := Lib.hid hao
  have hcap : D.pd.length ≤ cap := by
    rcases h.row.2 with ⟨hh, h0⟩ | ⟨g, c, cur, hh, _, _, hle, _⟩
    · omega
    · rw [hpv] at hh
      simp only [Value.slice.injEq] at hh
      omega
  obtain ⟨L, HL⟩ : ∃ L, Hid (L = D.pd.length) := ⟨_, Lib.hid rfl⟩
  rw [← HL.out] at c1 hk hcap
  have hL : (L : Int) ≤ 1000000 := by have := h.ok.few; have := HL.out; omega
  have hkL : (k : Int) ≤ L := by omega
  have hkc : (k : Int) ≤ cap := by omega
  clear h hpv hao
  go_enter Try.func44, Try.ntmps44
  go_wp2
  go_loopw [13] (fun i wr => ∃ j : Nat, j ≤ k ∧ i = .int .i64 j ∧ Hid (Only (foot b bs pv) W wr ∧ IsDisk n wr b bs pv (upTo D j))) (fun i _ => k - (intOf i).toNat)
  case atStart => exact ⟨0, by omega, rfl, Lib.hid ⟨Only.refl _ _, by rw [upTo_zero]; exact H.out⟩⟩
  case round =>
    obtain ⟨j, hj, rfl, HR⟩ := hrel
    by_cases hlt : j < k
    · have hlt' : (j : Int) < k := by omega
      have hjL : j < D.pd.length := by have := HL.out; omega
      obtain ⟨g, rfl⟩ := HA.out j hjL
      have hp := HR.out.2.pend HP.out j hjL
      have hm := H.out.ok.pd _ (List.getElem_mem hjL)
      obtain ⟨x, Hx⟩ : ∃ x, Hid (x = D.pd[j].1) := ⟨_, Lib.hid rfl⟩
      obtain ⟨t, Ht⟩ : ∃ x, Hid (x = D.pd[j].2) := ⟨_, Lib.hid rfl⟩
      have hp' : wr.cell? ⟨g, j * 2, none⟩ = some (.int .i64 (x : Nat)) ∧ wr.cell? ⟨g, j * 2 + 1, none⟩ = some (.string t) := by rw [Hx.out, Ht.out]; exact hp
      rw [← Hx.out, ← Ht.out] at hm
      obtain ⟨p1, p2⟩ := hp'
      obtain ⟨hx, ht⟩ := hm
      clear hp
      have hO1 : Only (foot b bs pv) W (wr.alloc (.cells #[.int .i64 x, .string t] 70)) := HR.out.1.alloc _
      have hD1 : IsDisk n (wr.alloc (.cells #[.int .i64 x, .string t] 70)) b bs pv (upTo D j) := HR.out.2.grown ((Below.refl _ _).alloc (Nat.le_refl _) _)
      have q1 : (wr.alloc (.cells #[.int .i64 x, .string t] 70)).cell? ⟨wr.heap.size, 0, none⟩ = some (.int .i64 x) := by rw [cell_alloc, if_pos rfl]; rfl
      have q2 : (wr.alloc (.cells #[.int .i64 x, .string t] 70)).cell? ⟨wr.heap.size, 1, none⟩ = some (.string t) := by rw [cell_alloc, if_pos rfl]; rfl
      go_wp2_with fail
      obtain ⟨W1, HW1⟩ : ∃ W1, Hid (W1 = wr.alloc (.cells #[.int .i64 x, .string t] 70)) := ⟨_, Lib.hid rfl⟩
      rw [← HW1.out] at hO1 hD1 q1 q2 ⊢
      have HD2 : Hid (IsDisk n W1.drew b bs pv (upTo D j)) := Lib.hid (hD1.grown (Below.refl _ _).drew)
      have HO2 : Hid (Only (foot b bs pv) W W1.drew) := Lib.hid hO1.drew
      have hby := bytes_any HD2.out x hx
      obtain ⟨cp, Hcp⟩ : ∃ cp, Hid (cp = 64 * n - 64 * x) := ⟨_, Lib.hid rfl⟩
      rw [← Hcp.out] at hby
      have HBy := Lib.hid hby
      have hst := HD2.out.ok.st
      have hcopy := Lib.run_copy_row_string (P := Try.prog) W1.drew 56 9 3 5 bs (64 * x) 64 cp t (stC (upTo D j).st) 5 Try.underlying56 info_u8s HD2.out.stable (by omega) (by rw [stC_size]; omega)
      have HC2 : Hid (IsDisk n (W1.drew.setRow bs ((stC (upTo D j).st).toList.take (64 * x) ++ Lib.byteCells t.data.toList ++ (stC (upTo D j).st).toList.drop (64 * x + t.size)).toArray) b bs pv (upTo D (j + 1))) := Lib.hid (by
        have h1 := HD2.out.copied x t.data.toList (by have : t.data.toList.length = t.size := rfl; omega)
        have e : { upTo D j with st := Dsk.put (upTo D j).st x t.data.toList } = upTo D (j + 1) := by rw [upTo_succ D j hjL, Hx.out, Ht.out]
        rw [e] at h1
        exact h1)
      have HO3 : Hid (Only (foot b bs pv) W (W1.drew.setRow bs ((stC (upTo D j).st).toList.take (64 * x) ++ Lib.byteCells t.data.toList ++ (stC (upTo D j).st).toList.drop (64 * x + t.size)).toArray)) := Lib.hid (only_row HO2.out _)
      obtain ⟨CS, HCS⟩ : ∃ CS, Hid (CS = ((stC (upTo D j).st).toList.take (64 * x) ++ Lib.byteCells t.data.toList ++ (stC (upTo D j).st).toList.drop (64 * x + t.size)).toArray) := ⟨_, Lib.hid rfl⟩
      rw [← HCS.out] at hcopy HC2 HO3
      clear hby hst hO1 hD1 hx
      go_still_tail 7, (by kernel_rfl)
      repeat still_step
      still_call (still_of HBy.out)
      repeat still_step
      refine wpStill_nil ?_
      go_wp2
      go_roundw
      case rel => exact ⟨j + 1, by omega, by go_num, Lib.hid ⟨HO3.out, HC2.out⟩⟩
      case measure => simp [intOf]; omega
    · obtain rfl : j = k := by omega
      go_wp2
      go_end0
      exact ⟨rfl, HR⟩
end

end Go.Proofs.Ytenddmcepfkbaaa
