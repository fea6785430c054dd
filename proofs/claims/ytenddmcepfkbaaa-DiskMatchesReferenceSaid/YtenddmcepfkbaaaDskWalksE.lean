/- The walks of package disk: what counts calls, Write, Sync, Rot. -/
import Derived.Test.YtenddmcepfkbaaaDskWalksD
import Derived.Laws.BitsAllLaws
namespace Go.Proofs.Ytenddmcepfkbaaa
open Go.RowKit

theorem owns_succ {w : World} {base : Nat} {e : TypeId} {size : Nat} {v : Value} {k : Nat} {xs : List Value} (h : w.ownsRow base e size v (k + 1) xs) : ∃ g cap, v = .slice (some ⟨g, 0, none⟩) (k + 1) cap := by
  rcases h.2 with ⟨_, h0⟩ | ⟨g, cap, cur, rfl, _⟩
  · omega
  · exact ⟨g, cap, rfl⟩

section
variable {n : Nat} {W W' : World} {b bs : Nat} {pv : Value} {D : Dsk.Dk}

theorem survive_calm (h : IsDisk n W b bs pv D) (ha : D.armed = false) : Calls Try.prog 43 #[.pointer (some ⟨b, 0, none⟩)] W fun e w' => e = .returned (.int .i64 0) ∧ W = w' := by
  have c3 := h.cells.2.2.2.1
  rw [ha] at c3
  clear h ha
  go_enter Try.func43, Try.ntmps43
  go_wp2
  go_ret
  exact ⟨rfl, rfl⟩
theorem survive_less (h : IsDisk n W b bs pv D) (ha : D.armed = true) (hp : 0 < D.aft) (hb : D.aft ≤ 9223372036854775807) : Calls Try.prog 43 #[.pointer (some ⟨b, 0, none⟩)] W fun e w' => e = .returned (.int .i64 0) ∧ Left n W b bs pv { D with aft := D.aft - 1 } w' := by
  have c3 := h.cells.2.2.2.1
  have c4 := h.cells.2.2.2.2.1
  have f4 := h.frees 4
  rw [ha] at c3
  have HL : Hid (Left n W b bs pv { D with aft := D.aft - 1 } (W.setCell ⟨b, 4, none⟩ (.int .i64 (D.aft - 1)))) := Lib.hid ⟨pv, only_store (Only.refl _ _) 4 _, h.store 4 _ rfl rfl rfl, fun _ hk => Or.inl hk⟩
  clear h ha
  go_enter Try.func43, Try.ntmps43
  go_wp2
  go_ret
  exact ⟨rfl, HL.out⟩
theorem survive_fails (h : IsDisk n W b bs pv D) (ha : D.armed = true) (hp : ¬ 0 < D.aft) : Calls Try.prog 43 #[.pointer (some ⟨b, 0, none⟩)] W fun e w' => e = .returned (.int .i64 18) ∧ Left n W b bs pv (Dsk.fail D D.tw D.tb) w' := by
  have c3 := h.cells.2.2.2.1
  have c4 := h.cells.2.2.2.2.1
  have c5 := h.cells.2.2.2.2.2.1
  have c6 := h.cells.2.2.2.2.2.2
  rw [ha] at c3
  have HD : Hid (IsDisk n W.drew b bs pv D) := Lib.hid (h.grown (Below.refl _ _).drew)
  have HF := Lib.hid (fail_any HD.out D.tw D.tb)
  clear h ha
  go_enter Try.func43, Try.ntmps43
  go_wp2_with fail
  go_still_tail 11, (by kernel_rfl)
  repeat still_step
  try refine wpStill_nil ?_
  go_wp2_with fail
  refine HF.out.mono ?_
  rintro e w1 ⟨rfl, hl⟩
  have HLf := Lib.hid hl
  clear hl
  go_wp2
  go_ret
  exact ⟨rfl, Left.next (pv' := pv) (Only.refl _ _).drew (fun _ hk => Or.inl hk) HLf.out⟩

theorem survive_any (h : IsDisk n W b bs pv D) (hb : D.aft ≤ 9223372036854775807) : Calls Try.prog 43 #[.pointer (some ⟨b, 0, none⟩)] W fun e w' => e = .returned (.int .i64 (Dsk.surviveE D)) ∧ Left n W b bs pv (Dsk.surviveD D) w' := by
  unfold Dsk.surviveE Dsk.surviveD
  cases ha : D.armed
  · exact (survive_calm h ha).mono fun e w' ⟨h1, h2⟩ => ⟨h1, h2 ▸ Left.same h (Below.refl _ _)⟩
  · by_cases hp : 0 < D.aft
    · simp only [if_true, if_pos hp]
      have := survive_less h ha hp hb
      rw [ha] at this
      exact this
    · simp only [if_true, if_neg hp]
      exact survive_fails h ha hp

theorem info_write : (Try.prog.info? 70).map (fun i => (i.zero, i.size, i.bytes)) = some (some (.agg #[.int .i64 0, .string ⟨#[]⟩]), 2, 24) := by kernel_rfl

theorem IsDisk.appended {W1 W2 : World} (h : IsDisk n W b bs pv D) (hA : Below W.heap.size W W1) (hg : W1.grownBy W2 pv.ownBlock) {v : Value} {s : Nat} {t : ByteArray} (hown : W2.ownsRow 0 70 2 v (D.pd.length + 1) (pdC D.pd ++ [.int .i64 s, .string t]))
    (hap : v.ownBlock = pv.ownBlock ∨ ∀ g, v.ownBlock = some g → W1.heap.size ≤ g) (hok : Dsk.ok n (Dsk.added D s t)) :
    Only (foot b bs pv) W (W2.setCell ⟨b, 1, none⟩ v) ∧ IsDisk n (W2.setCell ⟨b, 1, none⟩ v) b bs v (Dsk.added D s t) ∧ ∀ k, v.ownBlock = some k → pv.ownBlock = some k ∨ W.heap.size ≤ k := by
  have h1 := h.grown hA
  have hb : Whole W2 b 61 (diskC bs n pv D) := (hg.block b h1.whole.lt (fun hh => h.pvb hh.symm)).trans h1.whole
  have hs : Whole W2 bs 5 (stC D.st) := (hg.block bs h1.stable.lt (fun hh => h.pvs hh.symm)).trans h1.stable
  have hne : v.ownBlock ≠ some b := owns_whole hown hb (by decide)
  refine ⟨?_, ⟨hb.set 1 v, hs.far (p := ⟨b, 1, none⟩) (fun e => h.apart e.symm) v, ?_, hok⟩, fun k hk => ?_⟩
  · refine only_store ?_ 1 v
    refine (Only.of_below (foot b bs pv) hA).trans ?_
    exact Only.of_grown hg fun k hk => Or.inr (Or.inr hk)
  · have e : pdC (Dsk.added D s t).pd = pdC D.pd ++ [.int .i64 s, .string t] := by
      show pdC (D.pd ++ [((s : Int).toNat, t)]) = _
      rw [pdC_append, Int.toNat_natCast]
      rfl
    have e2 : (Dsk.added D s t).pd.length = D.pd.length + 1 := by
      show (D.pd ++ [_]).length = _
      rw [List.length_append]
      rfl
    rw [e, e2]
    exact hown.kept (row := some b) ⟨rfl, rfl, rfl, by simp, fun k _ hk => Below.heap_setCell _ _ _ _ (fun e => hk (by rw [e]))⟩ (Or.inr hne)
  · rcases hap with hh | hh
    · exact Or.inl (hh ▸ hk)
    · exact Or.inr (Nat.le_trans hA.size (hh k hk))

theorem write_nil (s : Int) (t : ByteArray) (w : World) : Calls Try.prog 23 #[.pointer none, .int .i64 s, .string t] w fun e w' => e = .returned (.int .i64 1) ∧ w = w' := by
  go_enter Try.func23, Try.ntmps23
  go_wp2_with fail
  refine (hind_nil _).mono ?_
  rintro e _ ⟨rfl, rfl⟩
  go_wp2
  go_ret
  exact ⟨rfl, rfl⟩
theorem write_off (h : IsDisk n W b bs pv D) (ho : D.off = true) (s : Int) (t : ByteArray) : Calls Try.prog 23 #[.pointer (some ⟨b, 0, none⟩), .int .i64 s, .string t] W fun e w' => e = .returned (.int .i64 18) ∧ W = w' := by
  have HO := Lib.hid (hind_off h ho)
  clear h ho
  go_enter Try.func23, Try.ntmps23
  go_wp2_with fail
  refine HO.out.mono ?_
  rintro e _ ⟨rfl, rfl⟩
  go_wp2
  go_ret
  exact ⟨rfl, rfl⟩
theorem write_bad (h : IsDisk n W b bs pv D) (ho : D.off = false) (s : Int) (t : ByteArray) (hs : Dsk.has n s = false ∨ Dsk.has n s = true ∧ (t.size == 64) = false) (ht : t.size ≤ 9223372036854775807) : Calls Try.prog 23 #[.pointer (some ⟨b, 0, none⟩), .int .i64 s, .string t] W fun e w' => e = .returned (.int .i64 1) ∧ W = w' := by
  have HO := Lib.hid (hind_on h ho)
  have hh := hasSector_any h s
  rcases hs with hs | ⟨hs, h2⟩
  · rw [hs] at hh
    have HS := Lib.hid hh
    clear h ho hh hs
    go_enter Try.func23, Try.ntmps23
    go_wp2_with fail
    refine HO.out.mono ?_
    rintro e _ ⟨rfl, rfl⟩
    go_wp2_with fail
    refine HS.out.mono ?_
    rintro e _ ⟨rfl, rfl⟩
    go_wp2
    go_ret
    exact ⟨rfl, rfl⟩
  · rw [hs] at hh
    have HS := Lib.hid hh
    have h3 : ((t.size : Int) != 64) = true := by simp at h2 ⊢; omega
    clear h ho hh hs h2
    go_enter Try.func23, Try.ntmps23
    go_wp2_with fail
    refine HO.out.mono ?_
    rintro e _ ⟨rfl, rfl⟩
    go_wp2_with fail
    refine HS.out.mono ?_
    rintro e _ ⟨rfl, rfl⟩
    go_wp2
    go_ret
    exact ⟨rfl, rfl⟩

set_option maxHeartbeats 1000000 in
theorem write_good (h : IsDisk n W b bs pv D) (ho : D.off = false) (s : Nat) (t : ByteArray) (hs : s < n) (ht : t.size = 64) (hf : D.pd.length < 1000000) (hb : D.aft ≤ 9223372036854775807) : Calls Try.prog 23 #[.pointer (some ⟨b, 0, none⟩), .int .i64 s, .string t] W fun e w' => e = .returned (.int .i64 (Dsk.surviveE (Dsk.added D s t))) ∧ Left n W b bs pv (Dsk.surviveD (Dsk.added D s t)) w' := by
  obtain ⟨i0, hi, hz0, hz1, hz2⟩ := info_parts info_write
  have HO := Lib.hid (hind_on h ho)
  have hh := hasSector_any h s
  have hhas : Dsk.has n s = true := Dsk.has_iff.2 ⟨by omega, by omega⟩
  rw [hhas] at hh
  have HS := Lib.hid hh
  have H := Lib.hid h
  have c1 := h.cells.2.1
  have f1 := h.frees 1
  have Hok : Hid (Dsk.ok n (Dsk.added D s t)) := Lib.hid (Dsk.added_ok h.ok hhas ht hf)
  have Haft : Hid ((Dsk.added D s t).aft ≤ 9223372036854775807) := Lib.hid hb
  have h3 : ((t.size : Int) != 64) = false := by simp; omega
  have hrow := Lib.hid h.row
  have hblt := h.whole.lt
  have hfew : Hid (D.pd.length < 1000000) := Lib.hid hf
  clear h ho hh ht hf hb hhas
  go_enter Try.func23, Try.ntmps23
  go_wp2_with fail
  refine HO.out.mono ?_
  rintro e _ ⟨rfl, rfl⟩
  go_wp2_with fail
  refine HS.out.mono ?_
  rintro e _ ⟨rfl, rfl⟩
  have HN : Hid (∀ (i : Nat) (u : Value), [Value.int .i64 (s : Int), .string t][i]? = some u → (W.alloc (.cells #[.int .i64 s, .string t] 70)).cell? ((⟨W.heap.size, 0, none⟩ : Addr).add i) = some u) := Lib.hid (by
    intro i u hu
    have e : (⟨W.heap.size, 0, none⟩ : Addr).add i = ⟨W.heap.size, i, none⟩ := by unfold Addr.add; split <;> simp_all
    rw [e, cell_alloc, if_pos rfl]
    simpa using hu)
  have HK : Hid (∀ w2 : World, (W.alloc (.cells #[.int .i64 s, .string t] 70)).grownBy w2 pv.ownBlock → w2.cell? ⟨b, 1, none⟩ = some pv ∧ w2.frozen? ⟨b, 1, none⟩ = false) := Lib.hid (fun w2 hg => by
    have hblk := hg.block b (by rw [size_alloc]; omega) (fun hh => H.out.pvb hh.symm)
    refine ⟨?_, ?_⟩
    · rw [World.cell?_of_block (w := W.alloc _) (a := ⟨b, 1, none⟩) hblk, cell_alloc, if_neg (by omega)]; exact c1
    · rw [World.frozen?_of_block (w := W.alloc _) (a := ⟨b, 1, none⟩) hblk, frozen_alloc, if_neg (by omega)]; exact f1)
  go_wp2_with (at_builtin; go_loud (refine wpList_append_apart rfl (.tmp 26) (.tmp 31) 57 rfl 0 70 i0 (.agg #[.int .i64 0, .string ⟨#[]⟩]) 2 24 Try.underlying57 hi hz0 hz1 hz2 rfl (by decide) _ _ _ rfl (hrow.out.alloc _) ⟨W.heap.size, 0, none⟩ 1 1 [.int .i64 s, .string t] rfl rfl HN.out (by simp [Value.oneCell']) (by have := hfew.out; unfold maxLen; omega) (by have := hfew.out; omega) (by omega) ?_); intro v' w2 hown hgrow hap; obtain ⟨g', cap', rfl⟩ := owns_succ hown; have HW2 := Lib.hid hown; have HG2 := Lib.hid hgrow; have HA2 := Lib.hid hap; obtain ⟨c1', f1'⟩ := HK.out w2 hgrow; clear hown hgrow hap)
  have hap := H.out.appended ((Below.refl _ _).alloc (Nat.le_refl _) _) HG2.out HW2.out HA2.out Hok.out
  have HAP := Lib.hid hap
  have HV := Lib.hid (survive_any hap.2.1 Haft.out)
  clear hap
  refine HV.out.mono ?_
  rintro e w4 ⟨rfl, hl⟩
  have HLf := Lib.hid hl
  clear hl
  go_wp2
  go_ret
  exact ⟨rfl, Left.next HAP.out.1 HAP.out.2.2 HLf.out⟩

theorem write_any (h : IsDisk n W b bs pv D) (s : Int) (t : ByteArray) (ht : t.size ≤ 9223372036854775807) (hf : D.pd.length < 1000000) (hb : D.aft ≤ 9223372036854775807) : Calls Try.prog 23 #[.pointer (some ⟨b, 0, none⟩), .int .i64 s, .string t] W fun e w' => e = .returned (.int .i64 (Dsk.writeE n D s t)) ∧ Left n W b bs pv (Dsk.writeD n D s t) w' := by
  unfold Dsk.writeE Dsk.writeD
  cases ho : D.off
  · cases hs : Dsk.has n s
    · exact (write_bad h ho s t (Or.inl hs) ht).mono fun e w' ⟨h1, h2⟩ => ⟨h1, h2 ▸ Left.same h (Below.refl _ _)⟩
    · cases hz : (t.size == 64)
      · exact (write_bad h ho s t (Or.inr ⟨hs, hz⟩) ht).mono fun e w' ⟨h1, h2⟩ => ⟨h1, h2 ▸ Left.same h (Below.refl _ _)⟩
      · obtain ⟨h1, h2⟩ := Dsk.has_iff.1 hs
        obtain ⟨k, rfl⟩ : ∃ k : Nat, s = k := ⟨s.toNat, by omega⟩
        exact write_good h ho k t (by omega) (by simpa using hz) hf hb
  · exact (write_off h ho s t).mono fun e w' ⟨h1, h2⟩ => ⟨h1, h2 ▸ Left.same h (Below.refl _ _)⟩

theorem sync_nil (w : World) : Calls Try.prog 21 #[.pointer none] w fun e w' => e = .returned (.int .i64 1) ∧ w = w' := by
  go_enter Try.func21, Try.ntmps21
  go_wp2_with fail
  refine (hind_nil _).mono ?_
  rintro e _ ⟨rfl, rfl⟩
  go_wp2
  go_ret
  exact ⟨rfl, rfl⟩
theorem sync_off (h : IsDisk n W b bs pv D) (ho : D.off = true) : Calls Try.prog 21 #[.pointer (some ⟨b, 0, none⟩)] W fun e w' => e = .returned (.int .i64 18) ∧ W = w' := by
  have HO := Lib.hid (hind_off h ho)
  clear h ho
  go_enter Try.func21, Try.ntmps21
  go_wp2_with fail
  refine HO.out.mono ?_
  rintro e _ ⟨rfl, rfl⟩
  go_wp2
  go_ret
  exact ⟨rfl, rfl⟩
theorem sync_fails (h : IsDisk n W b bs pv D) (ho : D.off = false) (hb : D.aft ≤ 9223372036854775807) (he : Dsk.surviveE D = 18) : Calls Try.prog 21 #[.pointer (some ⟨b, 0, none⟩)] W fun e w' => e = .returned (.int .i64 18) ∧ Left n W b bs pv (Dsk.surviveD D) w' := by
  have HO := Lib.hid (hind_on h ho)
  have hv := survive_any h hb
  rw [he] at hv
  have HV := Lib.hid hv
  clear h ho hb he hv
  go_enter Try.func21, Try.ntmps21
  go_wp2_with fail
  refine HO.out.mono ?_
  rintro e _ ⟨rfl, rfl⟩
  go_wp2_with fail
  refine HV.out.mono ?_
  rintro e w1 ⟨rfl, hl⟩
  have HLf := Lib.hid hl
  clear hl
  go_wp2
  go_ret
  exact ⟨rfl, HLf.out⟩

set_option maxHeartbeats 1000000 in
theorem sync_good (h : IsDisk n W b bs pv D) (ho : D.off = false) (hb : D.aft ≤ 9223372036854775807) (he : Dsk.surviveE D = 0) : Calls Try.prog 21 #[.pointer (some ⟨b, 0, none⟩)] W fun e w' => e = .returned (.int .i64 0) ∧ Left n W b bs pv { Dsk.surviveD D with st := Dsk.settle (Dsk.surviveD D).st (Dsk.surviveD D).pd, pd := [] } w' := by
  have HO := Lib.hid (hind_on h ho)
  have hv := survive_any h hb
  rw [he] at hv
  have HV := Lib.hid hv
  obtain ⟨D1, HD1⟩ : ∃ D1, Hid (D1 = Dsk.surviveD D) := ⟨_, Lib.hid rfl⟩
  rw [← HD1.out] at HV ⊢
  clear h ho hb he hv
  go_enter Try.func21, Try.ntmps21
  go_wp2_with fail
  refine HO.out.mono ?_
  rintro e _ ⟨rfl, rfl⟩
  go_wp2_with fail
  refine HV.out.mono ?_
  rintro e w1 ⟨rfl, hl⟩
  obtain ⟨pv1, o1, i1, q1⟩ := hl
  have HO1 := Lib.hid o1
  have HI1 := Lib.hid i1
  have HQ1 := Lib.hid q1
  have c1 := i1.cells.2.1
  obtain ⟨ao, cap, hpv, _⟩ := i1.slice
  have hset := settle_any i1 D1.pd.length (Nat.le_refl _)
  rw [hpv] at c1
  obtain ⟨L, HL⟩ : ∃ L, Hid (L = D1.pd.length) := ⟨_, Lib.hid rfl⟩
  rw [← HL.out] at c1 hset
  have HS := Lib.hid hset
  have hL : (L : Int) ≤ 1000000 := by have := i1.ok.few; have := HL.out; omega
  clear o1 i1 q1 hpv hset
  go_wp2_with fail
  refine HS.out.mono ?_
  rintro e w2 ⟨rfl, HR⟩
  have c1' := HR.out.2.cells.2.1
  have f1' := HR.out.2.frees 1
  have HLf : Hid (Left n W b bs pv { D1 with st := Dsk.settle D1.st D1.pd, pd := [] } (w2.setCell ⟨b, 1, none⟩ (.slice none 0 0))) := Lib.hid (by
    have e : upTo D1 L = { D1 with st := Dsk.settle D1.st D1.pd } := by unfold upTo; rw [HL.out, List.take_length]
    have h2 := HR.out.2
    rw [e] at h2
    have h3 := h2.dropped
    refine Left.next HO1.out HQ1.out ⟨.slice none 0 0, only_store HR.out.1 1 _, h3, fun k hk => by simp [Value.ownBlock] at hk⟩)
  clear c1
  go_wp2
  go_ret
  exact ⟨rfl, HLf.out⟩

theorem surviveE_cases (D : Dsk.Dk) : Dsk.surviveE D = 0 ∨ Dsk.surviveE D = 18 := by
  unfold Dsk.surviveE
  split
  · split
    · exact Or.inl rfl
    · exact Or.inr rfl
  · exact Or.inl rfl
theorem sync_any (h : IsDisk n W b bs pv D) (hb : D.aft ≤ 9223372036854775807) : Calls Try.prog 21 #[.pointer (some ⟨b, 0, none⟩)] W fun e w' => e = .returned (.int .i64 (Dsk.syncE D)) ∧ Left n W b bs pv (Dsk.syncD D) w' := by
  unfold Dsk.syncE Dsk.syncD
  cases ho : D.off
  · rcases surviveE_cases D with he | he
    · have := sync_good h ho hb he
      simp only [Bool.false_eq_true, if_false, he, if_true]
      exact this
    · have := sync_fails h ho hb he
      simp only [Bool.false_eq_true, if_false, he]
      exact this
  · exact (sync_off h ho).mono fun e w' ⟨h1, h2⟩ => ⟨h1, h2 ▸ Left.same h (Below.refl _ _)⟩
end

end Go.Proofs.Ytenddmcepfkbaaa
