/- The walks of the statements on disks: an operation. -/
import Derived.Test.YtenddmcepfkbaaaDskAct
namespace Go.Proofs.Ytenddmcepfkbaaa
open Go.RowKit

def doD (n : Nat) (D : Dsk.Dk) (a : Ac) : Dsk.Dk :=
  if a.kind = 0 then Dsk.writeD n D a.sector (textV a.odd a.text)
  else if a.kind = 2 then Dsk.syncD D
  else if a.kind = 3 then Dsk.fail D a.sector a.byt
  else if a.kind = 4 then Dsk.startD D
  else if a.kind = 5 then Dsk.armD D a.after a.sector a.byt
  else if a.kind = 6 then Dsk.rotD n D a.sector a.byt a.after
  else D
def doV (n : Nat) (D : Dsk.Dk) (a : Ac) : ByteArray :=
  if a.kind = 1 then Dsk.readV n D a.sector else if a.kind = 7 then ⟨D.st.toArray⟩ else ⟨#[]⟩
def doE (n : Nat) (D : Dsk.Dk) (a : Ac) : Int :=
  if a.kind = 0 then Dsk.writeE n D a.sector (textV a.odd a.text) else if a.kind = 1 then Dsk.readE n D a.sector else if a.kind = 2 then Dsk.syncE D else 0

/-- What the operations keep of the numbers. -/
def fits (D : Dsk.Dk) (k : Nat) : Prop := D.aft ≤ 9223372036854775807 ∧ D.pd.length ≤ k
theorem fits.mono {D : Dsk.Dk} {k m : Nat} (h : fits D k) (hk : k ≤ m) : fits D m := ⟨h.1, by have := h.2; omega⟩
theorem fail_fits {D : Dsk.Dk} {k : Nat} (h : fits D k) (x y : Int) : fits (Dsk.fail D x y) k := by
  unfold Dsk.fail
  split
  · exact h
  · exact ⟨h.1, by simp⟩
theorem survive_fits {D : Dsk.Dk} {k : Nat} (h : fits D k) : fits (Dsk.surviveD D) k := by
  unfold Dsk.surviveD
  split
  · split
    · exact ⟨by show D.aft - 1 ≤ _; have := h.1; omega, h.2⟩
    · exact fail_fits h _ _
  · exact h
theorem write_fits {n : Nat} {D : Dsk.Dk} {k : Nat} (h : fits D k) (s : Int) (t : ByteArray) : fits (Dsk.writeD n D s t) (k + 1) := by
  unfold Dsk.writeD
  split
  · exact h.mono (by omega)
  · split
    · refine survive_fits ⟨h.1, ?_⟩
      show (D.pd ++ [_]).length ≤ _
      rw [List.length_append]
      have := h.2
      simp
      omega
    · exact h.mono (by omega)
theorem sync_fits {D : Dsk.Dk} {k : Nat} (h : fits D k) : fits (Dsk.syncD D) k := by
  have h1 := survive_fits h
  unfold Dsk.syncD
  split
  · exact h
  · split
    · exact ⟨h1.1, by simp⟩
    · exact h1
theorem do_fits {n : Nat} {D : Dsk.Dk} {k : Nat} (h : fits D k) (a : Ac) (ha : a.after ≤ 9223372036854775807) : fits (doD n D a) (k + 1) := by
  unfold doD
  split
  · exact write_fits h _ _
  · split
    · exact (sync_fits h).mono (by omega)
    · split
      · exact (fail_fits h _ _).mono (by omega)
      · split
        · exact ⟨h.1, by have := h.2; show D.pd.length ≤ _; omega⟩
        · split
          · unfold Dsk.armD
            split
            · exact h.mono (by omega)
            · exact ⟨ha, by have := h.2; show D.pd.length ≤ _; omega⟩
          · split
            · unfold Dsk.rotD
              split
              · exact ⟨h.1, by have := h.2; show D.pd.length ≤ _; omega⟩
              · exact h.mono (by omega)
            · exact h.mono (by omega)

section
variable {n : Nat} {W W' : World} {b bs : Nat} {pv : Value} {D : Dsk.Dk}

theorem textV_size (odd : Bool) (t : ByteArray) (h : t.size ≤ 100) : (textV odd t).size ≤ 9223372036854775807 := by
  unfold textV
  split
  · omega
  · split
    · omega
    · show (cyc t.data.toList).toArray.size ≤ _
      rw [List.size_toArray]
      unfold cyc
      rw [List.length_take]
      omega

/-- Behind a box. -/
theorem Left.boxed (o : Obj) {D2 : Dsk.Dk} (h : Left n (W.alloc o) b bs pv D2 W') : Left n W b bs pv D2 W' :=
  Left.next (pv' := pv) ((Only.refl _ _).alloc o) (fun _ hk => Or.inl hk) h
theorem IsDisk.boxed (h : IsDisk n W b bs pv D) (o : Obj) : IsDisk n (W.alloc o) b bs pv D := h.grown ((Below.refl _ _).alloc (Nat.le_refl _) o)

abbrev DoPost (n : Nat) (W : World) (b bs : Nat) (pv : Value) (D : Dsk.Dk) (v : ByteArray) (x : Int) (e : Ending) (w' : World) : Prop := e = .returned (.tuple #[.string v, .int .i64 x]) ∧ Left n W b bs pv D w'

set_option maxHeartbeats 1000000 in
theorem do_write (h : IsDisk n W b bs pv D) (s y f : Int) (t : ByteArray) (odd : Bool) (ht : t.size ≤ 100) (hf : D.pd.length < 1000000) (hb : D.aft ≤ 9223372036854775807) :
    Calls Try.prog 16 #[.pointer (some ⟨b, 0, none⟩), acV ⟨0, s, y, t, odd, f⟩] W fun e w' => e = .returned (.tuple #[.string ⟨#[]⟩, .int .i64 (Dsk.writeE n D s (textV odd t))]) ∧ Left n W b bs pv (Dsk.writeD n D s (textV odd t)) w' := by
  obtain ⟨T, HT⟩ : ∃ T, Hid (T = textV odd t) := ⟨_, Lib.hid rfl⟩
  have hx := fun w => text_any ⟨0, s, y, t, odd, f⟩ ht w
  unfold acV at hx ⊢
  simp only at hx ⊢
  rw [← HT.out] at hx ⊢
  have hsz : T.size ≤ 9223372036854775807 := by rw [HT.out]; exact textV_size odd t ht
  have HX := Lib.hid hx
  have H1 := Lib.hid (h.boxed (.cells #[.int .i64 0, .int .i64 s, .int .i64 y, .string t, .bool odd, .int .i64 f] 34))
  have HW := Lib.hid (fun (W2 : World) (h2 : IsDisk n W2 b bs pv D) => write_any h2 s T hsz hf hb)
  clear h hx hf hb hsz ht
  go_enter Try.func16, Try.ntmps16
  have k0 : (W.alloc (.cells #[.int .i64 0, .int .i64 s, .int .i64 y, .string t, .bool odd, .int .i64 f] 34)).cell? ⟨W.heap.size, 0, none⟩ = some (.int .i64 0) := by rw [cell_alloc, if_pos rfl]; rfl
  have k1 : (W.alloc (.cells #[.int .i64 0, .int .i64 s, .int .i64 y, .string t, .bool odd, .int .i64 f] 34)).cell? ⟨W.heap.size, 1, none⟩ = some (.int .i64 s) := by rw [cell_alloc, if_pos rfl]; rfl
  have k2 : (W.alloc (.cells #[.int .i64 0, .int .i64 s, .int .i64 y, .string t, .bool odd, .int .i64 f] 34)).cell? ⟨W.heap.size, 2, none⟩ = some (.int .i64 y) := by rw [cell_alloc, if_pos rfl]; rfl
  have k3 : (W.alloc (.cells #[.int .i64 0, .int .i64 s, .int .i64 y, .string t, .bool odd, .int .i64 f] 34)).cell? ⟨W.heap.size, 3, none⟩ = some (.string t) := by rw [cell_alloc, if_pos rfl]; rfl
  have k4 : (W.alloc (.cells #[.int .i64 0, .int .i64 s, .int .i64 y, .string t, .bool odd, .int .i64 f] 34)).cell? ⟨W.heap.size, 4, none⟩ = some (.bool odd) := by rw [cell_alloc, if_pos rfl]; rfl
  have k5 : (W.alloc (.cells #[.int .i64 0, .int .i64 s, .int .i64 y, .string t, .bool odd, .int .i64 f] 34)).cell? ⟨W.heap.size, 5, none⟩ = some (.int .i64 f) := by rw [cell_alloc, if_pos rfl]; rfl
  have hlt : W.heap.size < (W.alloc (.cells #[.int .i64 0, .int .i64 s, .int .i64 y, .string t, .bool odd, .int .i64 f] 34)).heap.size := by rw [size_alloc]; omega
  have HB := Lib.hid (fun (D2 : Dsk.Dk) (W2 : World) (hl : Left n (W.alloc (.cells #[.int .i64 0, .int .i64 s, .int .i64 y, .string t, .bool odd, .int .i64 f] 34)) b bs pv D2 W2) => hl.boxed)
  go_wp2_with fail
  obtain ⟨W1, HW1⟩ : ∃ W1, Hid (W1 = W.alloc (.cells #[.int .i64 0, .int .i64 s, .int .i64 y, .string t, .bool odd, .int .i64 f] 34)) := ⟨_, Lib.hid rfl⟩
  rw [← HW1.out] at k0 k1 k2 k3 k4 k5 hlt H1 HB ⊢
  have p1 : ∀ X : Grown W1, X.w.cell? ⟨W.heap.size, 1, none⟩ = some (.int .i64 s) := fun X => by rw [X.cell hlt, k1]
  have p0 : ∀ X : Grown W1, X.w.cell? ⟨W.heap.size, 0, none⟩ = some (.int .i64 0) := fun X => by rw [X.cell hlt, k0]
  have p2 : ∀ X : Grown W1, X.w.cell? ⟨W.heap.size, 2, none⟩ = some (.int .i64 y) := fun X => by rw [X.cell hlt, k2]
  have p3 : ∀ X : Grown W1, X.w.cell? ⟨W.heap.size, 3, none⟩ = some (.string t) := fun X => by rw [X.cell hlt, k3]
  have p4 : ∀ X : Grown W1, X.w.cell? ⟨W.heap.size, 4, none⟩ = some (.bool odd) := fun X => by rw [X.cell hlt, k4]
  have p5 : ∀ X : Grown W1, X.w.cell? ⟨W.heap.size, 5, none⟩ = some (.int .i64 f) := fun X => by rw [X.cell hlt, k5]
  clear k0 k1 k2 k3 k4 k5
  refine wp_region_grown_tail 5 (by kernel_rfl) (by kernel_rfl) ?_
  simp only [List.take_succ_cons, List.take_zero, List.drop_succ_cons, List.drop_zero]
  repeat (go_big_quiet_step ((go_at_call 24; exact grown_of (HX.out _))))
  refine wpQuiet_nil ?_
  intro X
  have HD2 := Lib.hid (H1.out.grown X.below)
  have HO2 : Hid (Only (foot b bs pv) W1 X.w) := Lib.hid (Only.of_below _ X.below)
  go_wp2_with fail
  refine (HW.out _ HD2.out).mono ?_
  rintro e w3 ⟨rfl, hl⟩
  have HLf := Lib.hid (HB.out _ _ (Left.next (pv' := pv) HO2.out (fun _ hk => Or.inl hk) hl))
  clear hl
  go_wp2
  go_ret2
  exact ⟨rfl, HLf.out⟩

set_option maxHeartbeats 1000000 in
theorem do_read (h : IsDisk n W b bs pv D) (s y f : Int) (t : ByteArray) (odd : Bool) :
    Calls Try.prog 16 #[.pointer (some ⟨b, 0, none⟩), acV ⟨1, s, y, t, odd, f⟩] W fun e w' => e = .returned (.tuple #[.string (Dsk.readV n D s), .int .i64 (Dsk.readE n D s)]) ∧ Left n W b bs pv (D) w' := by
  unfold acV
  simp only
  have h2 := h.boxed (.cells #[.int .i64 1, .int .i64 s, .int .i64 y, .string t, .bool odd, .int .i64 f] 34)
  have H2 := Lib.hid h2
  have HW := Lib.hid (read_any h2 s)
  have HB := Lib.hid (fun (D2 : Dsk.Dk) (W2 : World) (hl : Left n (W.alloc (.cells #[.int .i64 1, .int .i64 s, .int .i64 y, .string t, .bool odd, .int .i64 f] 34)) b bs pv D2 W2) => hl.boxed)
  clear h h2
  go_enter Try.func16, Try.ntmps16
  go_wp2_with fail
  refine HW.out.mono ?_
  rintro e w3 ⟨rfl, hl⟩
  have HLf := Lib.hid (HB.out _ _ (Left.same H2.out hl))
  clear hl
  go_wp2
  go_ret2
  exact ⟨rfl, HLf.out⟩

set_option maxHeartbeats 1000000 in
theorem do_sync (h : IsDisk n W b bs pv D) (s y f : Int) (t : ByteArray) (odd : Bool) (hb : D.aft ≤ 9223372036854775807) :
    Calls Try.prog 16 #[.pointer (some ⟨b, 0, none⟩), acV ⟨2, s, y, t, odd, f⟩] W fun e w' => e = .returned (.tuple #[.string ⟨#[]⟩, .int .i64 (Dsk.syncE D)]) ∧ Left n W b bs pv (Dsk.syncD D) w' := by
  unfold acV
  simp only
  have h2 := h.boxed (.cells #[.int .i64 2, .int .i64 s, .int .i64 y, .string t, .bool odd, .int .i64 f] 34)
  have H2 := Lib.hid h2
  have HW := Lib.hid (sync_any h2 hb)
  have HB := Lib.hid (fun (D2 : Dsk.Dk) (W2 : World) (hl : Left n (W.alloc (.cells #[.int .i64 2, .int .i64 s, .int .i64 y, .string t, .bool odd, .int .i64 f] 34)) b bs pv D2 W2) => hl.boxed)
  clear h h2 hb
  go_enter Try.func16, Try.ntmps16
  go_wp2_with fail
  refine HW.out.mono ?_
  rintro e w3 ⟨rfl, hl⟩
  have HLf := Lib.hid (HB.out _ _ hl)
  clear hl
  go_wp2
  go_ret2
  exact ⟨rfl, HLf.out⟩

set_option maxHeartbeats 1000000 in
theorem do_fail (h : IsDisk n W b bs pv D) (s y f : Int) (t : ByteArray) (odd : Bool) :
    Calls Try.prog 16 #[.pointer (some ⟨b, 0, none⟩), acV ⟨3, s, y, t, odd, f⟩] W fun e w' => e = .returned (.tuple #[.string ⟨#[]⟩, .int .i64 0]) ∧ Left n W b bs pv (Dsk.fail D s y) w' := by
  unfold acV
  simp only
  have h2 := h.boxed (.cells #[.int .i64 3, .int .i64 s, .int .i64 y, .string t, .bool odd, .int .i64 f] 34)
  have H2 := Lib.hid h2
  have HW := Lib.hid (fail_any h2 s y)
  have HB := Lib.hid (fun (D2 : Dsk.Dk) (W2 : World) (hl : Left n (W.alloc (.cells #[.int .i64 3, .int .i64 s, .int .i64 y, .string t, .bool odd, .int .i64 f] 34)) b bs pv D2 W2) => hl.boxed)
  clear h h2
  go_enter Try.func16, Try.ntmps16
  go_wp2_with fail
  refine HW.out.mono ?_
  rintro e w3 ⟨rfl, hl⟩
  have HLf := Lib.hid (HB.out _ _ hl)
  clear hl
  go_wp2
  go_ret2
  exact ⟨rfl, HLf.out⟩

set_option maxHeartbeats 1000000 in
theorem do_start (h : IsDisk n W b bs pv D) (s y f : Int) (t : ByteArray) (odd : Bool) :
    Calls Try.prog 16 #[.pointer (some ⟨b, 0, none⟩), acV ⟨4, s, y, t, odd, f⟩] W fun e w' => e = .returned (.tuple #[.string ⟨#[]⟩, .int .i64 0]) ∧ Left n W b bs pv (Dsk.startD D) w' := by
  unfold acV
  simp only
  have h2 := h.boxed (.cells #[.int .i64 4, .int .i64 s, .int .i64 y, .string t, .bool odd, .int .i64 f] 34)
  have H2 := Lib.hid h2
  have HW := Lib.hid (start_any h2)
  have HB := Lib.hid (fun (D2 : Dsk.Dk) (W2 : World) (hl : Left n (W.alloc (.cells #[.int .i64 4, .int .i64 s, .int .i64 y, .string t, .bool odd, .int .i64 f] 34)) b bs pv D2 W2) => hl.boxed)
  clear h h2
  go_enter Try.func16, Try.ntmps16
  go_wp2_with fail
  refine HW.out.mono ?_
  rintro e w3 ⟨rfl, hl⟩
  have HLf := Lib.hid (HB.out _ _ hl)
  clear hl
  go_wp2
  go_ret2
  exact ⟨rfl, HLf.out⟩

set_option maxHeartbeats 1000000 in
theorem do_arm (h : IsDisk n W b bs pv D) (s y f : Int) (t : ByteArray) (odd : Bool) :
    Calls Try.prog 16 #[.pointer (some ⟨b, 0, none⟩), acV ⟨5, s, y, t, odd, f⟩] W fun e w' => e = .returned (.tuple #[.string ⟨#[]⟩, .int .i64 0]) ∧ Left n W b bs pv (Dsk.armD D f s y) w' := by
  unfold acV
  simp only
  have h2 := h.boxed (.cells #[.int .i64 5, .int .i64 s, .int .i64 y, .string t, .bool odd, .int .i64 f] 34)
  have H2 := Lib.hid h2
  have HW := Lib.hid (arm_any h2 f s y)
  have HB := Lib.hid (fun (D2 : Dsk.Dk) (W2 : World) (hl : Left n (W.alloc (.cells #[.int .i64 5, .int .i64 s, .int .i64 y, .string t, .bool odd, .int .i64 f] 34)) b bs pv D2 W2) => hl.boxed)
  clear h h2
  go_enter Try.func16, Try.ntmps16
  go_wp2_with fail
  refine HW.out.mono ?_
  rintro e w3 ⟨rfl, hl⟩
  have HLf := Lib.hid (HB.out _ _ hl)
  clear hl
  go_wp2
  go_ret2
  exact ⟨rfl, HLf.out⟩

set_option maxHeartbeats 1000000 in
theorem do_rot (h : IsDisk n W b bs pv D) (s y f : Int) (t : ByteArray) (odd : Bool) :
    Calls Try.prog 16 #[.pointer (some ⟨b, 0, none⟩), acV ⟨6, s, y, t, odd, f⟩] W fun e w' => e = .returned (.tuple #[.string ⟨#[]⟩, .int .i64 0]) ∧ Left n W b bs pv (Dsk.rotD n D s y f) w' := by
  unfold acV
  simp only
  have h2 := h.boxed (.cells #[.int .i64 6, .int .i64 s, .int .i64 y, .string t, .bool odd, .int .i64 f] 34)
  have H2 := Lib.hid h2
  have HW := Lib.hid (rot_any h2 s y f)
  have HB := Lib.hid (fun (D2 : Dsk.Dk) (W2 : World) (hl : Left n (W.alloc (.cells #[.int .i64 6, .int .i64 s, .int .i64 y, .string t, .bool odd, .int .i64 f] 34)) b bs pv D2 W2) => hl.boxed)
  clear h h2
  go_enter Try.func16, Try.ntmps16
  go_wp2_with fail
  refine HW.out.mono ?_
  rintro e w3 ⟨rfl, hl⟩
  have HLf := Lib.hid (HB.out _ _ hl)
  clear hl
  go_wp2
  go_ret2
  exact ⟨rfl, HLf.out⟩

set_option maxHeartbeats 1000000 in
theorem do_raw (h : IsDisk n W b bs pv D) (s y f : Int) (t : ByteArray) (odd : Bool) :
    Calls Try.prog 16 #[.pointer (some ⟨b, 0, none⟩), acV ⟨7, s, y, t, odd, f⟩] W fun e w' => e = .returned (.tuple #[.string ⟨D.st.toArray⟩, .int .i64 0]) ∧ Left n W b bs pv (D) w' := by
  unfold acV
  simp only
  have h2 := h.boxed (.cells #[.int .i64 7, .int .i64 s, .int .i64 y, .string t, .bool odd, .int .i64 f] 34)
  have H2 := Lib.hid h2
  have HW := Lib.hid (raw_any h2)
  have HB := Lib.hid (fun (D2 : Dsk.Dk) (W2 : World) (hl : Left n (W.alloc (.cells #[.int .i64 7, .int .i64 s, .int .i64 y, .string t, .bool odd, .int .i64 f] 34)) b bs pv D2 W2) => hl.boxed)
  clear h h2
  go_enter Try.func16, Try.ntmps16
  go_wp2_with fail
  refine HW.out.mono ?_
  rintro e _ ⟨rfl, rfl⟩
  go_wp2
  go_ret2
  exact ⟨rfl, HB.out _ _ (Left.same H2.out (Below.refl _ _))⟩

set_option maxHeartbeats 1000000 in
theorem do_none (h : IsDisk n W b bs pv D) (k s y f : Int) (t : ByteArray) (odd : Bool) (q0 : (k == 0) = false) (q1 : (k == 1) = false) (q2 : (k == 2) = false) (q3 : (k == 3) = false) (q4 : (k == 4) = false) (q5 : (k == 5) = false) (q6 : (k == 6) = false) (q7 : (k == 7) = false) :
    Calls Try.prog 16 #[.pointer (some ⟨b, 0, none⟩), acV ⟨k, s, y, t, odd, f⟩] W fun e w' => e = .returned (.tuple #[.string ⟨#[]⟩, .int .i64 0]) ∧ Left n W b bs pv D w' := by
  unfold acV
  simp only
  have H := Lib.hid h
  clear h
  go_enter Try.func16, Try.ntmps16
  go_wp2
  go_ret2
  exact ⟨rfl, Left.same H.out ((Below.refl _ _).alloc (Nat.le_refl _) _)⟩

theorem do_any (h : IsDisk n W b bs pv D) (a : Ac) (ht : a.text.size ≤ 100) (hf : D.pd.length < 1000000) (hb : D.aft ≤ 9223372036854775807) :
    Calls Try.prog 16 #[.pointer (some ⟨b, 0, none⟩), acV a] W fun e w' => e = .returned (.tuple #[.string (doV n D a), .int .i64 (doE n D a)]) ∧ Left n W b bs pv (doD n D a) w' := by
  obtain ⟨k, s, y, t, odd, f⟩ := a
  simp only at ht
  unfold doV doE doD
  simp only
  by_cases q0 : k = 0
  · subst q0
    simp only [if_true, show ¬ (0 : Int) = 1 by decide, show ¬ (0 : Int) = 7 by decide, if_false]
    exact do_write h s y f t odd ht hf hb
  by_cases q1 : k = 1
  · subst q1
    simp only [if_true, show ¬ (1 : Int) = 0 by decide, show ¬ (1 : Int) = 2 by decide, show ¬ (1 : Int) = 3 by decide, show ¬ (1 : Int) = 4 by decide, show ¬ (1 : Int) = 5 by decide, show ¬ (1 : Int) = 6 by decide, if_false]
    exact do_read h s y f t odd
  by_cases q2 : k = 2
  · subst q2
    simp only [if_true, show ¬ (2 : Int) = 0 by decide, show ¬ (2 : Int) = 1 by decide, show ¬ (2 : Int) = 7 by decide, if_false]
    exact do_sync h s y f t odd hb
  by_cases q3 : k = 3
  · subst q3
    simp only [if_true, show ¬ (3 : Int) = 0 by decide, show ¬ (3 : Int) = 1 by decide, show ¬ (3 : Int) = 2 by decide, show ¬ (3 : Int) = 7 by decide, if_false]
    exact do_fail h s y f t odd
  by_cases q4 : k = 4
  · subst q4
    simp only [if_true, show ¬ (4 : Int) = 0 by decide, show ¬ (4 : Int) = 1 by decide, show ¬ (4 : Int) = 2 by decide, show ¬ (4 : Int) = 3 by decide, show ¬ (4 : Int) = 7 by decide, if_false]
    exact do_start h s y f t odd
  by_cases q5 : k = 5
  · subst q5
    simp only [if_true, show ¬ (5 : Int) = 0 by decide, show ¬ (5 : Int) = 1 by decide, show ¬ (5 : Int) = 2 by decide, show ¬ (5 : Int) = 3 by decide, show ¬ (5 : Int) = 4 by decide, show ¬ (5 : Int) = 7 by decide, if_false]
    exact do_arm h s y f t odd
  by_cases q6 : k = 6
  · subst q6
    simp only [if_true, show ¬ (6 : Int) = 0 by decide, show ¬ (6 : Int) = 1 by decide, show ¬ (6 : Int) = 2 by decide, show ¬ (6 : Int) = 3 by decide, show ¬ (6 : Int) = 4 by decide, show ¬ (6 : Int) = 5 by decide, show ¬ (6 : Int) = 7 by decide, if_false]
    exact do_rot h s y f t odd
  by_cases q7 : k = 7
  · subst q7
    simp only [if_true, show ¬ (7 : Int) = 0 by decide, show ¬ (7 : Int) = 1 by decide, show ¬ (7 : Int) = 2 by decide, show ¬ (7 : Int) = 3 by decide, show ¬ (7 : Int) = 4 by decide, show ¬ (7 : Int) = 5 by decide, show ¬ (7 : Int) = 6 by decide, if_false]
    exact do_raw h s y f t odd
  simp only [if_neg q0, if_neg q1, if_neg q2, if_neg q3, if_neg q4, if_neg q5, if_neg q6, if_neg q7]
  exact do_none h k s y f t odd (by simp [q0]) (by simp [q1]) (by simp [q2]) (by simp [q3]) (by simp [q4]) (by simp [q5]) (by simp [q6]) (by simp [q7])
end

end Go.Proofs.Ytenddmcepfkbaaa
