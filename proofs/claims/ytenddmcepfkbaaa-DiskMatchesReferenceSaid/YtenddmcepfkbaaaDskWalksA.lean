/- The walks of package disk: what hinders, sectors, bytes, Start, Arm, Raw. -/
import Derived.Test.YtenddmcepfkbaaaDskIs
import Derived.Test.YtenddmcepfkbaaaQuietTail
import Derived.RegionTactic
namespace Go.Proofs.Ytenddmcepfkbaaa
open Go.RowKit

theorem hind_nil (w : World) : Calls Try.prog 40 #[.pointer none] w fun e w' => e = .returned (.int .i64 1) ∧ w = w' := by
  go_enter Try.func40, Try.ntmps40
  go_wp2
  go_ret
  exact ⟨rfl, rfl⟩

section
variable {n : Nat} {W : World} {b bs : Nat} {pv : Value} {D : Dsk.Dk}

theorem hind_on (h : IsDisk n W b bs pv D) (ho : D.off = false) : Calls Try.prog 40 #[.pointer (some ⟨b, 0, none⟩)] W fun e w' => e = .returned (.int .i64 0) ∧ W = w' := by
  have c2 := h.cells.2.2.1
  rw [ho] at c2
  clear h ho
  go_enter Try.func40, Try.ntmps40
  go_wp2
  go_ret
  exact ⟨rfl, rfl⟩
theorem hind_off (h : IsDisk n W b bs pv D) (ho : D.off = true) : Calls Try.prog 40 #[.pointer (some ⟨b, 0, none⟩)] W fun e w' => e = .returned (.int .i64 18) ∧ W = w' := by
  have c2 := h.cells.2.2.1
  rw [ho] at c2
  clear h ho
  go_enter Try.func40, Try.ntmps40
  go_wp2
  go_ret
  exact ⟨rfl, rfl⟩

theorem hasSector_any (h : IsDisk n W b bs pv D) (s : Int) : Calls Try.prog 41 #[.pointer (some ⟨b, 0, none⟩), .int .i64 s] W fun e w' => e = .returned (.bool (Dsk.has n s)) ∧ W = w' := by
  have c0 := h.cells.1
  have hn := h.ok.n2
  obtain ⟨N, HN⟩ : ∃ N, Hid (N = 64 * n) := ⟨_, Lib.hid rfl⟩
  rw [← HN.out] at c0
  have e1 : (N : Int) / 64 = n := by have := HN.out; omega
  have e2 : (N : Int).tdiv 64 = n := by rw [Int.tdiv_eq_ediv_of_nonneg (by omega)]; exact e1
  have hN : (N : Int) ≤ 512000 := by have := HN.out; omega
  clear h
  by_cases h0 : 0 ≤ s
  · by_cases h1 : s < n
    · rw [Dsk.has_iff.2 ⟨h0, h1⟩]
      go_enter Try.func41, Try.ntmps41
      go_wp2
      go_ret
      exact ⟨by first | rfl | (show Ending.returned (.bool (decide (s < n))) = _; rw [decide_eq_true h1]), rfl⟩
    · rw [Dsk.has_no (fun hh => h1 hh.2)]
      go_enter Try.func41, Try.ntmps41
      go_wp2
      go_ret
      exact ⟨by first | rfl | (show Ending.returned (.bool (decide (s < n))) = _; rw [decide_eq_false h1]), rfl⟩
  · rw [Dsk.has_no (fun hh => h0 hh.1)]
    go_enter Try.func41, Try.ntmps41
    go_wp2
    go_ret
    exact ⟨rfl, rfl⟩

theorem sizeU8 : ∀ w, (Go.sizeOf 5).run Try.prog w = .ok 1 w := fun _ => by kernel_rfl

theorem bytes_any (h : IsDisk n W b bs pv D) (s : Nat) (hs : s < n) : Calls Try.prog 42 #[.pointer (some ⟨b, 0, none⟩), .int .i64 s] W fun e w' => e = .returned (.slice (some ⟨bs, 64 * s, none⟩) 64 (64 * n - 64 * s)) ∧ W = w' := by
  have c0 := h.cells.1
  have hn := h.ok.n2
  have hsl := fun W => Lib.run_slice_window (P := Try.prog) W 56 5 Try.underlying56 sizeU8 bs 0 (64 * n) (64 * n) (64 * s) (64 * (s + 1)) (by omega) (by omega)
  rw [Nat.zero_add] at hsl
  have e0 : 64 * (s + 1) - 64 * s = 64 := by omega
  rw [e0] at hsl
  obtain ⟨N, HN⟩ : ∃ N, Hid (N = 64 * n) := ⟨_, Lib.hid rfl⟩
  rw [← HN.out] at c0 hsl ⊢
  have e1 : (s : Int) * 64 = ((64 * s : Nat) : Int) := by omega
  have e2 : ((s : Int) + 1) * 64 = ((64 * (s + 1) : Nat) : Int) := by omega
  rw [← e1, ← e2] at hsl
  have hs' : (s : Int) ≤ 8000 := by omega
  clear h e1 e2 e0
  go_enter Try.func42, Try.ntmps42
  go_wp2
  go_ret
  exact ⟨rfl, rfl⟩

theorem start_nil (w : World) : Calls Try.prog 20 #[.pointer none] w fun e w' => e = .returned (.tuple #[]) ∧ w = w' := by
  go_enter Try.func20, Try.ntmps20
  go_wp2
  go_end0
  exact ⟨rfl, rfl⟩

theorem start_any (h : IsDisk n W b bs pv D) : Calls Try.prog 20 #[.pointer (some ⟨b, 0, none⟩)] W fun e w' => e = .returned (.tuple #[]) ∧ Left n W b bs pv (Dsk.startD D) w' := by
  have c2 := h.cells.2.2.1
  have c3 := h.cells.2.2.2.1
  have f2 := h.frees 2
  have f3 := h.frees 3
  have H := Lib.hid h
  clear h
  go_enter Try.func20, Try.ntmps20
  go_wp2
  go_end0
  have h1 : IsDisk n (W.setCell ⟨b, 2, none⟩ (.bool false)) b bs pv { D with off := false } := H.out.store 2 _ rfl rfl rfl
  have h2 : IsDisk n ((W.setCell ⟨b, 2, none⟩ (.bool false)).setCell ⟨b, 3, none⟩ (.bool false)) b bs pv (Dsk.startD D) := h1.store 3 _ rfl rfl rfl
  exact ⟨rfl, pv, only_store (only_store (Only.refl _ _) 2 _) 3 _, h2, fun _ hk => Or.inl hk⟩

theorem arm_nil (a x y : Int) (w : World) : Calls Try.prog 29 #[.pointer none, .int .i64 a, .int .i64 x, .int .i64 y] w fun e w' => e = .returned (.tuple #[]) ∧ w = w' := by
  go_enter Try.func29, Try.ntmps29
  go_wp2_with fail
  refine (hind_nil _).mono ?_
  rintro e _ ⟨rfl, rfl⟩
  go_wp2
  (try simp only [Exit.inBlock, Exit.then])
  refine bodyPost_ret (results_none rfl _ _ _) rfl ?_
  exact ⟨rfl, rfl⟩

theorem arm_any (h : IsDisk n W b bs pv D) (a x y : Int) : Calls Try.prog 29 #[.pointer (some ⟨b, 0, none⟩), .int .i64 a, .int .i64 x, .int .i64 y] W fun e w' => e = .returned (.tuple #[]) ∧ Left n W b bs pv (Dsk.armD D a x y) w' := by
  have H := Lib.hid h
  unfold Dsk.armD
  cases ho : D.off
  · have c3 := h.cells.2.2.2.1
    have c4 := h.cells.2.2.2.2.1
    have c5 := h.cells.2.2.2.2.2.1
    have c6 := h.cells.2.2.2.2.2.2
    have f3 := h.frees 3
    have f4 := h.frees 4
    have f5 := h.frees 5
    have f6 := h.frees 6
    have HO := Lib.hid (hind_on h ho)
    have h1 : IsDisk n (W.setCell ⟨b, 3, none⟩ (.bool (decide (0 ≤ a)))) b bs pv { D with armed := decide (0 ≤ a) } := h.store 3 _ rfl rfl rfl
    have h2 : IsDisk n ((W.setCell ⟨b, 3, none⟩ (.bool (decide (0 ≤ a)))).setCell ⟨b, 4, none⟩ (.int .i64 a)) b bs pv { D with armed := decide (0 ≤ a), aft := a } := h1.store 4 _ rfl rfl rfl
    have h3 : IsDisk n (((W.setCell ⟨b, 3, none⟩ (.bool (decide (0 ≤ a)))).setCell ⟨b, 4, none⟩ (.int .i64 a)).setCell ⟨b, 5, none⟩ (.int .i64 x)) b bs pv { D with armed := decide (0 ≤ a), aft := a, tw := x } := h2.store 5 _ rfl rfl rfl
    have h4 : IsDisk n ((((W.setCell ⟨b, 3, none⟩ (.bool (decide (0 ≤ a)))).setCell ⟨b, 4, none⟩ (.int .i64 a)).setCell ⟨b, 5, none⟩ (.int .i64 x)).setCell ⟨b, 6, none⟩ (.int .i64 y)) b bs pv { D with armed := decide (0 ≤ a), aft := a, tw := x, tb := y } := h3.store 6 _ rfl rfl rfl
    have HL : Hid (Left n W b bs pv { D with armed := decide (0 ≤ a), aft := a, tw := x, tb := y } ((((W.setCell ⟨b, 3, none⟩ (.bool (decide (0 ≤ a)))).setCell ⟨b, 4, none⟩ (.int .i64 a)).setCell ⟨b, 5, none⟩ (.int .i64 x)).setCell ⟨b, 6, none⟩ (.int .i64 y))) :=
      Lib.hid ⟨pv, only_store (only_store (only_store (only_store (Only.refl _ _) 3 _) 4 _) 5 _) 6 _, h4, fun _ hk => Or.inl hk⟩
    rw [ho] at HL
    clear h h1 h2 h3 h4 ho
    simp only [Bool.false_eq_true, if_false]
    go_enter Try.func29, Try.ntmps29
    go_wp2_with fail
    refine HO.out.mono ?_
    rintro e _ ⟨rfl, rfl⟩
    go_wp2
    go_end0
    exact ⟨rfl, HL.out⟩
  · have HO := Lib.hid (hind_off h ho)
    clear h ho
    simp only [if_true]
    go_enter Try.func29, Try.ntmps29
    go_wp2_with fail
    refine HO.out.mono ?_
    rintro e _ ⟨rfl, rfl⟩
    go_wp2
    (try simp only [Exit.inBlock, Exit.then])
    refine bodyPost_ret (results_none rfl _ _ _) rfl ?_
    exact ⟨rfl, Left.same H.out (Below.refl _ _)⟩

theorem raw_nil (w : World) : Calls Try.prog 31 #[.pointer none] w fun e w' => e = .returned (.string ⟨#[]⟩) ∧ w = w' := by
  go_enter Try.func31, Try.ntmps31
  go_wp2
  go_ret
  exact ⟨rfl, rfl⟩

theorem raw_any (h : IsDisk n W b bs pv D) : Calls Try.prog 31 #[.pointer (some ⟨b, 0, none⟩)] W fun e w' => e = .returned (.string ⟨D.st.toArray⟩) ∧ W = w' := by
  have c0 := h.cells.1
  have hcv := run_convert_bytes_back (P := Try.prog) W 56 9 5 ⟨bs, 0, none⟩ (64 * n) D.st Try.underlying56 Try.underlying5 Try.underlying9 (fun j hj => by
    have e : (⟨bs, 0, none⟩ : Addr).add j = ⟨bs, j, none⟩ := by unfold Addr.add; split <;> simp_all
    rw [e]; exact h.byte j (by rw [← h.ok.st]; exact hj))
  rw [h.ok.st] at hcv
  obtain ⟨N, HN⟩ : ∃ N, Hid (N = 64 * n) := ⟨_, Lib.hid rfl⟩
  rw [← HN.out] at c0 hcv
  clear h
  go_enter Try.func31, Try.ntmps31
  go_wp2
  go_ret
  exact ⟨rfl, rfl⟩
end

end Go.Proofs.Ytenddmcepfkbaaa
