/- The walks of the reference's disk: what counts calls, Write, Sync, Read. -/
import Derived.Test.YtenddmcepfkbaaaDrfC
namespace Go.Proofs.Ytenddmcepfkbaaa
open Go.RowKit

/-- An armed disk's number is not negative. -/
def Sane (D : Dsk.Dk) : Prop := D.armed = true → 0 ≤ D.aft
section
variable {n : Nat} {W W' : World} {b g gc : Nat} {pv : Value} {D : Dsk.Dk}

theorem rcount_calm (h : IsRf n W b g gc pv D) (ha : D.armed = false) : Calls Try.prog 45 #[.pointer (some ⟨b, 0, none⟩)] W fun e w' => e = .returned (.int .i64 0) ∧ W = w' := by
  have c3 := h.cells.2.2.2.1
  rw [ha] at c3
  clear h ha
  go_enter Try.func45, Try.ntmps45
  go_wp2
  go_ret
  exact ⟨rfl, rfl⟩
theorem rcount_less (h : IsRf n W b g gc pv D) (ha : D.armed = true) (hp : 0 < D.aft) (hb : D.aft ≤ 9223372036854775807) : Calls Try.prog 45 #[.pointer (some ⟨b, 0, none⟩)] W fun e w' => e = .returned (.int .i64 0) ∧ LeftR n W b g gc pv { D with aft := D.aft - 1 } w' := by
  have c3 := h.cells.2.2.2.1
  have c4 := h.cells.2.2.2.2.1
  have f4 := h.frees 4
  rw [ha] at c3
  have hne : ((D.aft : Int) == 0) = false := by simp; omega
  have HL : Hid (LeftR n W b g gc pv { D with aft := D.aft - 1 } (W.setCell ⟨b, 4, none⟩ (.int .i64 (D.aft - 1)))) := Lib.hid ⟨pv, only_store (Only.refl _ _) 4 _, h.store 4 _ rfl rfl rfl, fun _ hk => Or.inl hk⟩
  clear h ha
  go_enter Try.func45, Try.ntmps45
  go_wp2
  go_ret
  exact ⟨rfl, HL.out⟩
theorem rcount_fails (h : IsRf n W b g gc pv D) (ha : D.armed = true) (hp : D.aft = 0) : Calls Try.prog 45 #[.pointer (some ⟨b, 0, none⟩)] W fun e w' => e = .returned (.int .i64 18) ∧ LeftR n W b g gc pv (Dsk.fail D D.tw D.tb) w' := by
  have c3 := h.cells.2.2.2.1
  have c4 := h.cells.2.2.2.2.1
  have c5 := h.cells.2.2.2.2.2.1
  have c6 := h.cells.2.2.2.2.2.2
  rw [ha] at c3
  rw [hp] at c4
  have HD : Hid (IsRf n W.drew b g gc pv D) := Lib.hid (h.grown (Below.refl _ _).drew)
  have HF := Lib.hid (rfail_any HD.out D.tw D.tb)
  clear h ha hp
  go_enter Try.func45, Try.ntmps45
  go_wp2_with fail
  go_still_tail 9, (by kernel_rfl)
  repeat still_step
  try refine wpStill_nil ?_
  go_wp2_with fail
  refine HF.out.mono ?_
  rintro e w1 ⟨rfl, hl⟩
  have HLf := Lib.hid hl
  clear hl
  go_wp2
  go_ret
  exact ⟨rfl, LeftR.next (pv' := pv) (Only.refl _ _).drew (fun _ hk => Or.inl hk) HLf.out⟩

theorem rcount_any (h : IsRf n W b g gc pv D) (hs : Sane D) (hb : D.aft ≤ 9223372036854775807) : Calls Try.prog 45 #[.pointer (some ⟨b, 0, none⟩)] W fun e w' => e = .returned (.int .i64 (Dsk.surviveE D)) ∧ LeftR n W b g gc pv (Dsk.surviveD D) w' := by
  unfold Dsk.surviveE Dsk.surviveD
  cases ha : D.armed
  · exact (rcount_calm h ha).mono fun e w' ⟨h1, h2⟩ => ⟨h1, h2 ▸ LeftR.same h (Below.refl _ _)⟩
  · have h0 := hs ha
    by_cases hp : 0 < D.aft
    · simp only [if_true, if_pos hp]
      have := rcount_less h ha hp hb
      rw [ha] at this
      exact this
    · simp only [if_true, if_neg hp]
      exact rcount_fails h ha (by omega)

theorem info_rwrite : (Try.prog.info? 73).map (fun i => (i.zero, i.size, i.bytes)) = some (some (.agg #[.int .i64 0, .string ⟨#[]⟩]), 2, 24) := by kernel_rfl

theorem IsRf.appended {W1 W2 : World} (h : IsRf n W b g gc pv D) (hA : Below W.heap.size W W1) (hg : W1.grownBy W2 pv.ownBlock) {v : Value} {s : Nat} {t : ByteArray} (hown : W2.ownsRow 0 73 2 v (D.pd.length + 1) (pdC D.pd ++ [.int .i64 s, .string t]))
    (hap : v.ownBlock = pv.ownBlock ∨ ∀ g, v.ownBlock = some g → W1.heap.size ≤ g) (hok : Dsk.ok n (Dsk.added D s t)) :
    Only (foot b g pv) W (W2.setCell ⟨b, 1, none⟩ v) ∧ IsRf n (W2.setCell ⟨b, 1, none⟩ v) b g gc v (Dsk.added D s t) ∧ ∀ k, v.ownBlock = some k → pv.ownBlock = some k ∨ W.heap.size ≤ k := by
  have h1 := h.grown hA
  have hb : Whole W2 b 64 (refC g n gc pv D) := (hg.block b h1.whole.lt (fun hh => h.pvb hh.symm)).trans h1.whole
  have hs : Secs n W2 g D.st := h1.stable.block (hg.block g h1.stable.lt (fun hh => h.pvs hh.symm))
  have hne : v.ownBlock ≠ some b := owns_whole hown hb (by decide)
  refine ⟨?_, ⟨hb.set 1 v, hs.block (Below.heap_setCell _ _ _ _ (fun e => h.apart e.symm)), ?_, hok⟩, fun k hk => ?_⟩
  · refine only_store ?_ 1 v
    refine (Only.of_below (foot b g pv) hA).trans ?_
    exact Only.of_grown hg fun k hk => Or.inr (Or.inr hk)
  · have e : pdC (Dsk.added D s t).pd = pdC D.pd ++ [.int .i64 s, .string t] := by
      show pdC (D.pd ++ [((s : Int).toNat, t)]) = _
      rw [pdC_append, Int.toNat_natCast]
      rfl
    have e2 : (Dsk.added D s t).pd.length = D.pd.length + 1 := by
      show (D.pd ++ [_]).length = _
      rw [List.length_append]
      rfl
    rw [e, e2]
    exact hown.kept (row := some b) ⟨rfl, rfl, rfl, by simp, fun k _ hk => Below.heap_setCell _ _ _ _ (fun e => hk (by rw [e]))⟩ (Or.inr hne)
  · rcases hap with hh | hh
    · exact Or.inl (hh ▸ hk)
    · exact Or.inr (Nat.le_trans hA.size (hh k hk))

theorem rwrite_off (h : IsRf n W b g gc pv D) (ho : D.off = true) (s : Int) (t : ByteArray) : Calls Try.prog 33 #[.pointer (some ⟨b, 0, none⟩), .int .i64 s, .string t] W fun e w' => e = .returned (.int .i64 18) ∧ W = w' := by
  have c2 := h.cells.2.2.1
  rw [ho] at c2
  simp only [Bool.not_true] at c2
  clear h ho
  go_enter Try.func33, Try.ntmps33
  go_wp2
  go_ret
  exact ⟨rfl, rfl⟩
theorem rwrite_bad (h : IsRf n W b g gc pv D) (ho : D.off = false) (s : Int) (t : ByteArray) (hs : Dsk.has n s = false ∨ Dsk.has n s = true ∧ (t.size == 64) = false) (ht : t.size ≤ 9223372036854775807) : Calls Try.prog 33 #[.pointer (some ⟨b, 0, none⟩), .int .i64 s, .string t] W fun e w' => e = .returned (.int .i64 1) ∧ W = w' := by
  have c2 := h.cells.2.2.1
  have c0 := h.cells.1
  rw [ho] at c2
  simp only [Bool.not_false] at c2
  have hn := h.ok.n2
  have hc : s < 0 ∨ (¬ s < 0 ∧ (n : Int) ≤ s) ∨ (¬ s < 0 ∧ ¬ (n : Int) ≤ s ∧ (t.size == 64) = false) := by
    rcases hs with hs | ⟨hs, h2⟩
    · have : ¬ (0 ≤ s ∧ s < n) := fun hh => by rw [Dsk.has_iff.2 hh] at hs; cases hs
      omega
    · have := Dsk.has_iff.1 hs
      exact Or.inr (Or.inr ⟨by omega, by omega, h2⟩)
  rcases hc with h1 | ⟨h1, h3⟩ | ⟨h1, h3, h2⟩
  · clear h ho hs
    go_enter Try.func33, Try.ntmps33
    go_wp2
    go_ret
    exact ⟨rfl, rfl⟩
  · clear h ho hs
    go_enter Try.func33, Try.ntmps33
    go_wp2
    go_ret
    exact ⟨rfl, rfl⟩
  · have h4 : ((t.size : Int) != 64) = true := by simp at h2 ⊢; omega
    clear h ho hs h2
    go_enter Try.func33, Try.ntmps33
    go_wp2
    go_ret
    exact ⟨rfl, rfl⟩

set_option maxHeartbeats 1000000 in
theorem rwrite_good (h : IsRf n W b g gc pv D) (hsane : Sane D) (ho : D.off = false) (s : Nat) (t : ByteArray) (hs : s < n) (ht : t.size = 64) (hf : D.pd.length < 1000000) (hb : D.aft ≤ 9223372036854775807) : Calls Try.prog 33 #[.pointer (some ⟨b, 0, none⟩), .int .i64 s, .string t] W fun e w' => e = .returned (.int .i64 (Dsk.surviveE (Dsk.added D s t))) ∧ LeftR n W b g gc pv (Dsk.surviveD (Dsk.added D s t)) w' := by
  obtain ⟨i0, hi, hz0, hz1, hz2⟩ := info_parts info_rwrite
  have hhas : Dsk.has n s = true := Dsk.has_iff.2 ⟨by omega, by omega⟩
  have H := Lib.hid h
  have c0 := h.cells.1
  have c1 := h.cells.2.1
  have c2 := h.cells.2.2.1
  rw [ho] at c2
  simp only [Bool.not_false] at c2
  have f1 := h.frees 1
  have hn := h.ok.n2
  have hs1 : ¬ (n : Int) ≤ s := by omega
  have Hok : Hid (Dsk.ok n (Dsk.added D s t)) := Lib.hid (Dsk.added_ok h.ok hhas ht hf)
  have Haft : Hid ((Dsk.added D s t).aft ≤ 9223372036854775807) := Lib.hid hb
  have Hsa : Hid (Sane (Dsk.added D s t)) := Lib.hid hsane
  have h3 : ((t.size : Int) != 64) = false := by simp; omega
  have hrow := Lib.hid h.row
  have hblt := h.whole.lt
  have hfew : Hid (D.pd.length < 1000000) := Lib.hid hf
  clear h ho ht hf hb hhas hsane
  go_enter Try.func33, Try.ntmps33
  have HN : Hid (∀ (i : Nat) (u : Value), [Value.int .i64 (s : Int), .string t][i]? = some u → (W.alloc (.cells #[.int .i64 s, .string t] 73)).cell? ((⟨W.heap.size, 0, none⟩ : Addr).add i) = some u) := Lib.hid (by
    intro i u hu
    have e : (⟨W.heap.size, 0, none⟩ : Addr).add i = ⟨W.heap.size, i, none⟩ := by unfold Addr.add; split <;> simp_all
    rw [e, cell_alloc, if_pos rfl]
    simpa using hu)
  have HK : Hid (∀ w2 : World, (W.alloc (.cells #[.int .i64 s, .string t] 73)).grownBy w2 pv.ownBlock → w2.cell? ⟨b, 1, none⟩ = some pv ∧ w2.frozen? ⟨b, 1, none⟩ = false) := Lib.hid (fun w2 hg => by
    have hblk := hg.block b (by rw [size_alloc]; omega) (fun hh => H.out.pvb hh.symm)
    refine ⟨?_, ?_⟩
    · rw [World.cell?_of_block (w := W.alloc _) (a := ⟨b, 1, none⟩) hblk, cell_alloc, if_neg (by omega)]; exact c1
    · rw [World.frozen?_of_block (w := W.alloc _) (a := ⟨b, 1, none⟩) hblk, frozen_alloc, if_neg (by omega)]; exact f1)
  go_wp2_with (at_builtin; go_loud (refine wpList_append_apart rfl (.tmp 34) (.tmp 38) 62 rfl 0 73 i0 (.agg #[.int .i64 0, .string ⟨#[]⟩]) 2 24 Try.underlying62 hi hz0 hz1 hz2 rfl (by decide) _ _ _ rfl (hrow.out.alloc _) ⟨W.heap.size, 0, none⟩ 1 1 [.int .i64 s, .string t] rfl rfl HN.out (by simp [Value.oneCell']) (by have := hfew.out; unfold maxLen; omega) (by have := hfew.out; omega) (by omega) ?_); intro v' w2 hown hgrow hap; obtain ⟨g', cap', rfl⟩ := owns_succ hown; have HW2 := Lib.hid hown; have HG2 := Lib.hid hgrow; have HA2 := Lib.hid hap; obtain ⟨c1', f1'⟩ := HK.out w2 hgrow; clear hown hgrow hap)
  have hap := H.out.appended ((Below.refl _ _).alloc (Nat.le_refl _) _) HG2.out HW2.out HA2.out Hok.out
  have HAP := Lib.hid hap
  have HV := Lib.hid (rcount_any hap.2.1 Hsa.out Haft.out)
  clear hap
  refine HV.out.mono ?_
  rintro e w4 ⟨rfl, hl⟩
  have HLf := Lib.hid hl
  clear hl
  go_wp2
  go_ret
  exact ⟨rfl, LeftR.next HAP.out.1 HAP.out.2.2 HLf.out⟩

theorem rwrite_any (h : IsRf n W b g gc pv D) (hsane : Sane D) (s : Int) (t : ByteArray) (ht : t.size ≤ 9223372036854775807) (hf : D.pd.length < 1000000) (hb : D.aft ≤ 9223372036854775807) : Calls Try.prog 33 #[.pointer (some ⟨b, 0, none⟩), .int .i64 s, .string t] W fun e w' => e = .returned (.int .i64 (Dsk.writeE n D s t)) ∧ LeftR n W b g gc pv (Dsk.writeD n D s t) w' := by
  unfold Dsk.writeE Dsk.writeD
  cases ho : D.off
  · cases hs : Dsk.has n s
    · exact (rwrite_bad h ho s t (Or.inl hs) ht).mono fun e w' ⟨h1, h2⟩ => ⟨h1, h2 ▸ LeftR.same h (Below.refl _ _)⟩
    · cases hz : (t.size == 64)
      · exact (rwrite_bad h ho s t (Or.inr ⟨hs, hz⟩) ht).mono fun e w' ⟨h1, h2⟩ => ⟨h1, h2 ▸ LeftR.same h (Below.refl _ _)⟩
      · obtain ⟨h1, h2⟩ := Dsk.has_iff.1 hs
        obtain ⟨k, rfl⟩ : ∃ k : Nat, s = k := ⟨s.toNat, by omega⟩
        exact rwrite_good h hsane ho k t (by omega) (by simpa using hz) hf hb
  · exact (rwrite_off h ho s t).mono fun e w' ⟨h1, h2⟩ => ⟨h1, h2 ▸ LeftR.same h (Below.refl _ _)⟩
end

end Go.Proofs.Ytenddmcepfkbaaa
