/- The walks of the statements on disks: an operation on the reference's disk. -/
import Derived.Test.YtenddmcepfkbaaaDrfF
namespace Go.Proofs.Ytenddmcepfkbaaa
open Go.RowKit
section
variable {n : Nat} {W W' : World} {b g gc : Nat} {pv : Value} {D : Dsk.Dk}

theorem rread_below (h : IsRf n W b g gc pv D) (s : Int) : Calls Try.prog 19 #[.pointer (some ⟨b, 0, none⟩), .int .i64 s] W fun e w' => e = .returned (.tuple #[.string (Dsk.readV n D s), .int .i64 (Dsk.readE n D s)]) ∧ Below W.heap.size W w' :=
  (rread_any h s).mono fun e w' ⟨h1, h2⟩ => ⟨h1, h2 ▸ Below.refl _ _⟩

set_option maxHeartbeats 1000000 in
theorem want_write (h : IsRf n W b g gc pv D) (hsane : Sane D) (s y f : Int) (t : ByteArray) (odd : Bool) (ht : t.size ≤ 100) (hf : D.pd.length < 1000000) (hb : D.aft ≤ 9223372036854775807) :
    Calls Try.prog 17 #[.pointer (some ⟨b, 0, none⟩), acV ⟨0, s, y, t, odd, f⟩] W fun e w' => e = .returned (.tuple #[.string ⟨#[]⟩, .int .i64 (Dsk.writeE n D s (textV odd t))]) ∧ LeftR n W b g gc pv (Dsk.writeD n D s (textV odd t)) w' := by
  obtain ⟨T, HT⟩ : ∃ T, Hid (T = textV odd t) := ⟨_, Lib.hid rfl⟩
  have hx := fun w => text_any ⟨0, s, y, t, odd, f⟩ ht w
  unfold acV at hx ⊢
  simp only at hx ⊢
  rw [← HT.out] at hx ⊢
  have hsz : T.size ≤ 9223372036854775807 := by rw [HT.out]; exact textV_size odd t ht
  have HX := Lib.hid hx
  have H1 := Lib.hid (h.boxed (.cells #[.int .i64 0, .int .i64 s, .int .i64 y, .string t, .bool odd, .int .i64 f] 34))
  have HW := Lib.hid (fun (W2 : World) (h2 : IsRf n W2 b g gc pv D) => rwrite_any h2 hsane s T hsz hf hb)
  clear h hx hf hb hsz ht
  go_enter Try.func17, Try.ntmps17
  have k0 : (W.alloc (.cells #[.int .i64 0, .int .i64 s, .int .i64 y, .string t, .bool odd, .int .i64 f] 34)).cell? ⟨W.heap.size, 0, none⟩ = some (.int .i64 0) := by rw [cell_alloc, if_pos rfl]; rfl
  have k1 : (W.alloc (.cells #[.int .i64 0, .int .i64 s, .int .i64 y, .string t, .bool odd, .int .i64 f] 34)).cell? ⟨W.heap.size, 1, none⟩ = some (.int .i64 s) := by rw [cell_alloc, if_pos rfl]; rfl
  have k2 : (W.alloc (.cells #[.int .i64 0, .int .i64 s, .int .i64 y, .string t, .bool odd, .int .i64 f] 34)).cell? ⟨W.heap.size, 2, none⟩ = some (.int .i64 y) := by rw [cell_alloc, if_pos rfl]; rfl
  have k3 : (W.alloc (.cells #[.int .i64 0, .int .i64 s, .int .i64 y, .string t, .bool odd, .int .i64 f] 34)).cell? ⟨W.heap.size, 3, none⟩ = some (.string t) := by rw [cell_alloc, if_pos rfl]; rfl
  have k4 : (W.alloc (.cells #[.int .i64 0, .int .i64 s, .int .i64 y, .string t, .bool odd, .int .i64 f] 34)).cell? ⟨W.heap.size, 4, none⟩ = some (.bool odd) := by rw [cell_alloc, if_pos rfl]; rfl
  have k5 : (W.alloc (.cells #[.int .i64 0, .int .i64 s, .int .i64 y, .string t, .bool odd, .int .i64 f] 34)).cell? ⟨W.heap.size, 5, none⟩ = some (.int .i64 f) := by rw [cell_alloc, if_pos rfl]; rfl
  have hlt : W.heap.size < (W.alloc (.cells #[.int .i64 0, .int .i64 s, .int .i64 y, .string t, .bool odd, .int .i64 f] 34)).heap.size := by rw [size_alloc]; omega
  have HB := Lib.hid (fun (D2 : Dsk.Dk) (W2 : World) (hl : LeftR n (W.alloc (.cells #[.int .i64 0, .int .i64 s, .int .i64 y, .string t, .bool odd, .int .i64 f] 34)) b g gc pv D2 W2) => hl.boxed)
  go_wp2_with fail
  obtain ⟨W1, HW1⟩ : ∃ W1, Hid (W1 = W.alloc (.cells #[.int .i64 0, .int .i64 s, .int .i64 y, .string t, .bool odd, .int .i64 f] 34)) := ⟨_, Lib.hid rfl⟩
  rw [← HW1.out] at k0 k1 k2 k3 k4 k5 hlt H1 HB ⊢
  have p1 : ∀ X : Grown W1, X.w.cell? ⟨W.heap.size, 1, none⟩ = some (.int .i64 s) := fun X => by rw [X.cell hlt, k1]
  have p0 : ∀ X : Grown W1, X.w.cell? ⟨W.heap.size, 0, none⟩ = some (.int .i64 0) := fun X => by rw [X.cell hlt, k0]
  have p2 : ∀ X : Grown W1, X.w.cell? ⟨W.heap.size, 2, none⟩ = some (.int .i64 y) := fun X => by rw [X.cell hlt, k2]
  have p3 : ∀ X : Grown W1, X.w.cell? ⟨W.heap.size, 3, none⟩ = some (.string t) := fun X => by rw [X.cell hlt, k3]
  have p4 : ∀ X : Grown W1, X.w.cell? ⟨W.heap.size, 4, none⟩ = some (.bool odd) := fun X => by rw [X.cell hlt, k4]
  have p5 : ∀ X : Grown W1, X.w.cell? ⟨W.heap.size, 5, none⟩ = some (.int .i64 f) := fun X => by rw [X.cell hlt, k5]
  clear k0 k1 k2 k3 k4 k5
  refine wp_region_grown_tail 5 (by kernel_rfl) (by kernel_rfl) ?_
  simp only [List.take_succ_cons, List.take_zero, List.drop_succ_cons, List.drop_zero]
  repeat (go_big_quiet_step ((go_at_call 24; exact grown_of (HX.out _))))
  refine wpQuiet_nil ?_
  intro X
  have HD2 := Lib.hid (H1.out.grown X.below)
  have HO2 : Hid (Only (foot b g pv) W1 X.w) := Lib.hid (Only.of_below _ X.below)
  go_wp2_with fail
  refine (HW.out _ HD2.out).mono ?_
  rintro e w3 ⟨rfl, hl⟩
  have HLf := Lib.hid (HB.out _ _ (LeftR.next (pv' := pv) HO2.out (fun _ hk => Or.inl hk) hl))
  clear hl
  go_wp2
  go_ret2
  exact ⟨rfl, HLf.out⟩

set_option maxHeartbeats 1000000 in
theorem want_read (h : IsRf n W b g gc pv D) (s y f : Int) (t : ByteArray) (odd : Bool) :
    Calls Try.prog 17 #[.pointer (some ⟨b, 0, none⟩), acV ⟨1, s, y, t, odd, f⟩] W fun e w' => e = .returned (.tuple #[.string (Dsk.readV n D s), .int .i64 (Dsk.readE n D s)]) ∧ LeftR n W b g gc pv (D) w' := by
  unfold acV
  simp only
  have h2 := h.boxed (.cells #[.int .i64 1, .int .i64 s, .int .i64 y, .string t, .bool odd, .int .i64 f] 34)
  have H2 := Lib.hid h2
  have HW := Lib.hid (rread_below h2 s)
  have HB := Lib.hid (fun (D2 : Dsk.Dk) (W2 : World) (hl : LeftR n (W.alloc (.cells #[.int .i64 1, .int .i64 s, .int .i64 y, .string t, .bool odd, .int .i64 f] 34)) b g gc pv D2 W2) => hl.boxed)
  clear h h2
  go_enter Try.func17, Try.ntmps17
  go_wp2_with fail
  refine HW.out.mono ?_
  rintro e w3 ⟨rfl, hl⟩
  have HLf := Lib.hid (HB.out _ _ (LeftR.same H2.out hl))
  clear hl
  go_wp2
  go_ret2
  exact ⟨rfl, HLf.out⟩

set_option maxHeartbeats 1000000 in
theorem want_sync (h : IsRf n W b g gc pv D) (hsane : Sane D) (s y f : Int) (t : ByteArray) (odd : Bool) (hb : D.aft ≤ 9223372036854775807) :
    Calls Try.prog 17 #[.pointer (some ⟨b, 0, none⟩), acV ⟨2, s, y, t, odd, f⟩] W fun e w' => e = .returned (.tuple #[.string ⟨#[]⟩, .int .i64 (Dsk.syncE D)]) ∧ LeftR n W b g gc pv (Dsk.syncD D) w' := by
  unfold acV
  simp only
  have h2 := h.boxed (.cells #[.int .i64 2, .int .i64 s, .int .i64 y, .string t, .bool odd, .int .i64 f] 34)
  have H2 := Lib.hid h2
  have HW := Lib.hid (rsync_any h2 hsane hb)
  have HB := Lib.hid (fun (D2 : Dsk.Dk) (W2 : World) (hl : LeftR n (W.alloc (.cells #[.int .i64 2, .int .i64 s, .int .i64 y, .string t, .bool odd, .int .i64 f] 34)) b g gc pv D2 W2) => hl.boxed)
  clear h h2 hb
  go_enter Try.func17, Try.ntmps17
  go_wp2_with fail
  refine HW.out.mono ?_
  rintro e w3 ⟨rfl, hl⟩
  have HLf := Lib.hid (HB.out _ _ hl)
  clear hl
  go_wp2
  go_ret2
  exact ⟨rfl, HLf.out⟩

set_option maxHeartbeats 1000000 in
theorem want_fail (h : IsRf n W b g gc pv D) (s y f : Int) (t : ByteArray) (odd : Bool) :
    Calls Try.prog 17 #[.pointer (some ⟨b, 0, none⟩), acV ⟨3, s, y, t, odd, f⟩] W fun e w' => e = .returned (.tuple #[.string ⟨#[]⟩, .int .i64 0]) ∧ LeftR n W b g gc pv (Dsk.fail D s y) w' := by
  unfold acV
  simp only
  have h2 := h.boxed (.cells #[.int .i64 3, .int .i64 s, .int .i64 y, .string t, .bool odd, .int .i64 f] 34)
  have H2 := Lib.hid h2
  have HW := Lib.hid (rfail_any h2 s y)
  have HB := Lib.hid (fun (D2 : Dsk.Dk) (W2 : World) (hl : LeftR n (W.alloc (.cells #[.int .i64 3, .int .i64 s, .int .i64 y, .string t, .bool odd, .int .i64 f] 34)) b g gc pv D2 W2) => hl.boxed)
  clear h h2
  go_enter Try.func17, Try.ntmps17
  go_wp2_with fail
  refine HW.out.mono ?_
  rintro e w3 ⟨rfl, hl⟩
  have HLf := Lib.hid (HB.out _ _ hl)
  clear hl
  go_wp2
  go_ret2
  exact ⟨rfl, HLf.out⟩

set_option maxHeartbeats 1000000 in
theorem want_start (h : IsRf n W b g gc pv D) (s y f : Int) (t : ByteArray) (odd : Bool) :
    Calls Try.prog 17 #[.pointer (some ⟨b, 0, none⟩), acV ⟨4, s, y, t, odd, f⟩] W fun e w' => e = .returned (.tuple #[.string ⟨#[]⟩, .int .i64 0]) ∧ LeftR n W b g gc pv (Dsk.startD D) w' := by
  unfold acV
  simp only
  have h2 := h.boxed (.cells #[.int .i64 4, .int .i64 s, .int .i64 y, .string t, .bool odd, .int .i64 f] 34)
  have H2 := Lib.hid h2
  have HW := Lib.hid (rstart_any h2)
  have HB := Lib.hid (fun (D2 : Dsk.Dk) (W2 : World) (hl : LeftR n (W.alloc (.cells #[.int .i64 4, .int .i64 s, .int .i64 y, .string t, .bool odd, .int .i64 f] 34)) b g gc pv D2 W2) => hl.boxed)
  clear h h2
  go_enter Try.func17, Try.ntmps17
  go_wp2_with fail
  refine HW.out.mono ?_
  rintro e w3 ⟨rfl, hl⟩
  have HLf := Lib.hid (HB.out _ _ hl)
  clear hl
  go_wp2
  go_ret2
  exact ⟨rfl, HLf.out⟩

set_option maxHeartbeats 1000000 in
theorem want_arm (h : IsRf n W b g gc pv D) (s y f : Int) (t : ByteArray) (odd : Bool) :
    Calls Try.prog 17 #[.pointer (some ⟨b, 0, none⟩), acV ⟨5, s, y, t, odd, f⟩] W fun e w' => e = .returned (.tuple #[.string ⟨#[]⟩, .int .i64 0]) ∧ LeftR n W b g gc pv (Dsk.armD D f s y) w' := by
  unfold acV
  simp only
  have h2 := h.boxed (.cells #[.int .i64 5, .int .i64 s, .int .i64 y, .string t, .bool odd, .int .i64 f] 34)
  have H2 := Lib.hid h2
  have HW := Lib.hid (rarm_any h2 f s y)
  have HB := Lib.hid (fun (D2 : Dsk.Dk) (W2 : World) (hl : LeftR n (W.alloc (.cells #[.int .i64 5, .int .i64 s, .int .i64 y, .string t, .bool odd, .int .i64 f] 34)) b g gc pv D2 W2) => hl.boxed)
  clear h h2
  go_enter Try.func17, Try.ntmps17
  go_wp2_with fail
  refine HW.out.mono ?_
  rintro e w3 ⟨rfl, hl⟩
  have HLf := Lib.hid (HB.out _ _ hl)
  clear hl
  go_wp2
  go_ret2
  exact ⟨rfl, HLf.out⟩

set_option maxHeartbeats 1000000 in
theorem want_rot (h : IsRf n W b g gc pv D) (s y f : Int) (t : ByteArray) (odd : Bool) :
    Calls Try.prog 17 #[.pointer (some ⟨b, 0, none⟩), acV ⟨6, s, y, t, odd, f⟩] W fun e w' => e = .returned (.tuple #[.string ⟨#[]⟩, .int .i64 0]) ∧ LeftR n W b g gc pv (Dsk.rotD n D s y f) w' := by
  unfold acV
  simp only
  have h2 := h.boxed (.cells #[.int .i64 6, .int .i64 s, .int .i64 y, .string t, .bool odd, .int .i64 f] 34)
  have H2 := Lib.hid h2
  have HW := Lib.hid (rrot_any h2 s y f)
  have HB := Lib.hid (fun (D2 : Dsk.Dk) (W2 : World) (hl : LeftR n (W.alloc (.cells #[.int .i64 6, .int .i64 s, .int .i64 y, .string t, .bool odd, .int .i64 f] 34)) b g gc pv D2 W2) => hl.boxed)
  clear h h2
  go_enter Try.func17, Try.ntmps17
  go_wp2_with fail
  refine HW.out.mono ?_
  rintro e w3 ⟨rfl, hl⟩
  have HLf := Lib.hid (HB.out _ _ hl)
  clear hl
  go_wp2
  go_ret2
  exact ⟨rfl, HLf.out⟩

set_option maxHeartbeats 1000000 in
theorem want_raw (h : IsRf n W b g gc pv D) (s y f : Int) (t : ByteArray) (odd : Bool) :
    Calls Try.prog 17 #[.pointer (some ⟨b, 0, none⟩), acV ⟨7, s, y, t, odd, f⟩] W fun e w' => e = .returned (.tuple #[.string ⟨D.st.toArray⟩, .int .i64 0]) ∧ LeftR n W b g gc pv (D) w' := by
  unfold acV
  simp only
  have h2 := h.boxed (.cells #[.int .i64 7, .int .i64 s, .int .i64 y, .string t, .bool odd, .int .i64 f] 34)
  have H2 := Lib.hid h2
  have HW := Lib.hid (rraw_any h2)
  have HB := Lib.hid (fun (D2 : Dsk.Dk) (W2 : World) (hl : LeftR n (W.alloc (.cells #[.int .i64 7, .int .i64 s, .int .i64 y, .string t, .bool odd, .int .i64 f] 34)) b g gc pv D2 W2) => hl.boxed)
  clear h h2
  go_enter Try.func17, Try.ntmps17
  go_wp2_with fail
  refine HW.out.mono ?_
  rintro e w3 ⟨rfl, hl⟩
  have HLf := Lib.hid (HB.out _ _ (LeftR.same H2.out hl))
  clear hl
  go_wp2
  go_ret2
  exact ⟨rfl, HLf.out⟩

set_option maxHeartbeats 1000000 in
theorem want_none (h : IsRf n W b g gc pv D) (k s y f : Int) (t : ByteArray) (odd : Bool) (q0 : (k == 0) = false) (q1 : (k == 1) = false) (q2 : (k == 2) = false) (q3 : (k == 3) = false) (q4 : (k == 4) = false) (q5 : (k == 5) = false) (q6 : (k == 6) = false) (q7 : (k == 7) = false) :
    Calls Try.prog 17 #[.pointer (some ⟨b, 0, none⟩), acV ⟨k, s, y, t, odd, f⟩] W fun e w' => e = .returned (.tuple #[.string ⟨#[]⟩, .int .i64 0]) ∧ LeftR n W b g gc pv D w' := by
  unfold acV
  simp only
  have H := Lib.hid h
  clear h
  go_enter Try.func17, Try.ntmps17
  go_wp2
  go_ret2
  exact ⟨rfl, LeftR.same H.out ((Below.refl _ _).alloc (Nat.le_refl _) _)⟩

theorem want_any (h : IsRf n W b g gc pv D) (hsane : Sane D) (a : Ac) (ht : a.text.size ≤ 100) (hf : D.pd.length < 1000000) (hb : D.aft ≤ 9223372036854775807) :
    Calls Try.prog 17 #[.pointer (some ⟨b, 0, none⟩), acV a] W fun e w' => e = .returned (.tuple #[.string (doV n D a), .int .i64 (doE n D a)]) ∧ LeftR n W b g gc pv (doD n D a) w' := by
  obtain ⟨k, s, y, t, odd, f⟩ := a
  simp only at ht
  unfold doV doE doD
  simp only
  by_cases q0 : k = 0
  · subst q0
    simp only [if_true, show ¬ (0 : Int) = 1 by decide, show ¬ (0 : Int) = 7 by decide, if_false]
    exact want_write h hsane s y f t odd ht hf hb
  by_cases q1 : k = 1
  · subst q1
    simp only [if_true, show ¬ (1 : Int) = 0 by decide, show ¬ (1 : Int) = 2 by decide, show ¬ (1 : Int) = 3 by decide, show ¬ (1 : Int) = 4 by decide, show ¬ (1 : Int) = 5 by decide, show ¬ (1 : Int) = 6 by decide, if_false]
    exact want_read h s y f t odd
  by_cases q2 : k = 2
  · subst q2
    simp only [if_true, show ¬ (2 : Int) = 0 by decide, show ¬ (2 : Int) = 1 by decide, show ¬ (2 : Int) = 7 by decide, if_false]
    exact want_sync h hsane s y f t odd hb
  by_cases q3 : k = 3
  · subst q3
    simp only [if_true, show ¬ (3 : Int) = 0 by decide, show ¬ (3 : Int) = 1 by decide, show ¬ (3 : Int) = 2 by decide, show ¬ (3 : Int) = 7 by decide, if_false]
    exact want_fail h s y f t odd
  by_cases q4 : k = 4
  · subst q4
    simp only [if_true, show ¬ (4 : Int) = 0 by decide, show ¬ (4 : Int) = 1 by decide, show ¬ (4 : Int) = 2 by decide, show ¬ (4 : Int) = 3 by decide, show ¬ (4 : Int) = 7 by decide, if_false]
    exact want_start h s y f t odd
  by_cases q5 : k = 5
  · subst q5
    simp only [if_true, show ¬ (5 : Int) = 0 by decide, show ¬ (5 : Int) = 1 by decide, show ¬ (5 : Int) = 2 by decide, show ¬ (5 : Int) = 3 by decide, show ¬ (5 : Int) = 4 by decide, show ¬ (5 : Int) = 7 by decide, if_false]
    exact want_arm h s y f t odd
  by_cases q6 : k = 6
  · subst q6
    simp only [if_true, show ¬ (6 : Int) = 0 by decide, show ¬ (6 : Int) = 1 by decide, show ¬ (6 : Int) = 2 by decide, show ¬ (6 : Int) = 3 by decide, show ¬ (6 : Int) = 4 by decide, show ¬ (6 : Int) = 5 by decide, show ¬ (6 : Int) = 7 by decide, if_false]
    exact want_rot h s y f t odd
  by_cases q7 : k = 7
  · subst q7
    simp only [if_true, show ¬ (7 : Int) = 0 by decide, show ¬ (7 : Int) = 1 by decide, show ¬ (7 : Int) = 2 by decide, show ¬ (7 : Int) = 3 by decide, show ¬ (7 : Int) = 4 by decide, show ¬ (7 : Int) = 5 by decide, show ¬ (7 : Int) = 6 by decide, if_false]
    exact want_raw h s y f t odd
  simp only [if_neg q0, if_neg q1, if_neg q2, if_neg q3, if_neg q4, if_neg q5, if_neg q6, if_neg q7]
  exact want_none h k s y f t odd (by simp [q0]) (by simp [q1]) (by simp [q2]) (by simp [q3]) (by simp [q4]) (by simp [q5]) (by simp [q6]) (by simp [q7])
end

end Go.Proofs.Ytenddmcepfkbaaa
