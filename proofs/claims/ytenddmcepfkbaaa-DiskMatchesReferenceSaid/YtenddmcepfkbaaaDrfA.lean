/- The walks of the reference's disk: New, Start, Arm, set, settle. -/
import Derived.Test.YtenddmcepfkbaaaDrfIs
namespace Go.Proofs.Ytenddmcepfkbaaa
open Go.RowKit

theorem rzero_any (w : World) : Calls Try.prog 32 #[.int .i64 64] w fun e w' => e = .returned (.string ⟨(List.replicate 64 (0 : UInt8)).toArray⟩) ∧ w = w' := by
  go_enter Try.func32, Try.ntmps32
  go_wp2
  go_loop [3, 4] (fun s i => ∃ (S : ByteArray) (k : Nat), i = .int .i64 k ∧ s = .string S ∧ k ≤ 64 ∧ S.size = k ∧ Hid (S.data.toList = List.replicate k 0)) (fun _ i => 64 - (intOf i).toNat)
  case atStart => exact ⟨⟨#[]⟩, 0, rfl, rfl, by omega, rfl, Lib.hid rfl⟩
  case round =>
    obtain ⟨S, k, rfl, rfl, hk, hS, HS⟩ := hrel
    by_cases hlt : k < 64
    · have hlt' : (k : Int) < 64 := by omega
      have HZ := Lib.hid hS
      have hS2 : S.size ≤ 64 := by omega
      clear hS
      go_wp2
      go_round
      case rel =>
        refine ⟨S ++ ⟨#[0]⟩, k + 1, by go_num, rfl, by omega, by rw [ByteArray.size_append, HZ.out]; rfl, Lib.hid ?_⟩
        rw [List.replicate_succ', ← HS.out]
        simp
      case measure => simp [intOf]; omega
    · have hlt' : ¬ (k : Int) < 64 := by omega
      have Hk : Hid (k = 64) := Lib.hid (by omega)
      clear hS
      go_wp2
      go_ret
      refine ⟨ret_str ?_, rfl⟩
      apply ByteArray.ext
      apply Array.ext'
      rw [HS.out, Hk.out]
      rfl

theorem info_rstr : (Try.prog.info? 9).map (fun i => (i.zero, i.size, i.bytes)) = some (some (.string ⟨#[]⟩), 1, 16) := by kernel_rfl

section
variable {n : Nat} {W W' : World} {b g gc : Nat} {pv : Value} {D : Dsk.Dk}

theorem rstart_any (h : IsRf n W b g gc pv D) : Calls Try.prog 36 #[.pointer (some ⟨b, 0, none⟩)] W fun e w' => e = .returned (.tuple #[]) ∧ LeftR n W b g gc pv (Dsk.startD D) w' := by
  have c2 := h.cells.2.2.1
  have c3 := h.cells.2.2.2.1
  have f2 := h.frees 2
  have f3 := h.frees 3
  have H := Lib.hid h
  clear h
  go_enter Try.func36, Try.ntmps36
  go_wp2
  go_end0
  have h1 : IsRf n (W.setCell ⟨b, 2, none⟩ (.bool true)) b g gc pv { D with off := false } := H.out.store 2 _ rfl rfl rfl
  have h2 : IsRf n ((W.setCell ⟨b, 2, none⟩ (.bool true)).setCell ⟨b, 3, none⟩ (.bool false)) b g gc pv (Dsk.startD D) := h1.store 3 _ rfl rfl rfl
  exact ⟨rfl, pv, only_store (only_store (Only.refl _ _) 2 _) 3 _, h2, fun _ hk => Or.inl hk⟩

theorem rarm_any (h : IsRf n W b g gc pv D) (a x y : Int) : Calls Try.prog 37 #[.pointer (some ⟨b, 0, none⟩), .int .i64 a, .int .i64 x, .int .i64 y] W fun e w' => e = .returned (.tuple #[]) ∧ LeftR n W b g gc pv (Dsk.armD D a x y) w' := by
  have H := Lib.hid h
  unfold Dsk.armD
  have c2 := h.cells.2.2.1
  cases ho : D.off
  · have c3 := h.cells.2.2.2.1
    have c4 := h.cells.2.2.2.2.1
    have c5 := h.cells.2.2.2.2.2.1
    have c6 := h.cells.2.2.2.2.2.2
    have f3 := h.frees 3
    have f4 := h.frees 4
    have f5 := h.frees 5
    have f6 := h.frees 6
    have h1 : IsRf n (W.setCell ⟨b, 3, none⟩ (.bool (decide (0 ≤ a)))) b g gc pv { D with armed := decide (0 ≤ a) } := h.store 3 _ rfl rfl rfl
    have h2 : IsRf n ((W.setCell ⟨b, 3, none⟩ (.bool (decide (0 ≤ a)))).setCell ⟨b, 4, none⟩ (.int .i64 a)) b g gc pv { D with armed := decide (0 ≤ a), aft := a } := h1.store 4 _ rfl rfl rfl
    have h3 : IsRf n (((W.setCell ⟨b, 3, none⟩ (.bool (decide (0 ≤ a)))).setCell ⟨b, 4, none⟩ (.int .i64 a)).setCell ⟨b, 5, none⟩ (.int .i64 x)) b g gc pv { D with armed := decide (0 ≤ a), aft := a, tw := x } := h2.store 5 _ rfl rfl rfl
    have h4 : IsRf n ((((W.setCell ⟨b, 3, none⟩ (.bool (decide (0 ≤ a)))).setCell ⟨b, 4, none⟩ (.int .i64 a)).setCell ⟨b, 5, none⟩ (.int .i64 x)).setCell ⟨b, 6, none⟩ (.int .i64 y)) b g gc pv { D with armed := decide (0 ≤ a), aft := a, tw := x, tb := y } := h3.store 6 _ rfl rfl rfl
    have HL : Hid (LeftR n W b g gc pv { D with armed := decide (0 ≤ a), aft := a, tw := x, tb := y } ((((W.setCell ⟨b, 3, none⟩ (.bool (decide (0 ≤ a)))).setCell ⟨b, 4, none⟩ (.int .i64 a)).setCell ⟨b, 5, none⟩ (.int .i64 x)).setCell ⟨b, 6, none⟩ (.int .i64 y))) :=
      Lib.hid ⟨pv, only_store (only_store (only_store (only_store (Only.refl _ _) 3 _) 4 _) 5 _) 6 _, h4, fun _ hk => Or.inl hk⟩
    rw [ho] at HL c2
    simp only [Bool.not_false] at c2
    clear h h1 h2 h3 h4 ho
    simp only [Bool.false_eq_true, if_false]
    go_enter Try.func37, Try.ntmps37
    go_wp2
    go_end0
    exact ⟨rfl, HL.out⟩
  · rw [ho] at c2
    simp only [Bool.not_true] at c2
    clear h ho
    simp only [if_true]
    go_enter Try.func37, Try.ntmps37
    go_wp2
    (try simp only [Exit.inBlock, Exit.then])
    refine bodyPost_ret (results_none rfl _ _ _) rfl ?_
    exact ⟨rfl, LeftR.same H.out (Below.refl _ _)⟩

theorem secS_put {st : List UInt8} (h : st.length = 64 * n) {s : Nat} (hs : s < n) (t : ByteArray) (ht : t.size = 64) : ∀ j, j < n → secS (Dsk.put st s t.data.toList) j = if j = s then t else secS st j := by
  intro j hj
  have hl : t.data.toList.length = 64 := ht
  unfold secS
  rw [bytes_put h hs hj _ (by omega)]
  split
  · rw [List.drop_of_length_le (by rw [bytes_len h hs]; omega), List.append_nil]
  · rfl

theorem rset_any (h : IsRf n W b g gc pv D) (s : Nat) (hs : s < n) (t : ByteArray) {st' : List UInt8} (hl : st'.length = 64 * n) (he : ∀ j, j < n → secS st' j = if j = s then t else secS D.st j) :
    Calls Try.prog 47 #[.pointer (some ⟨b, 0, none⟩), .int .i64 s, .string t] W fun e w' => e = .returned (.tuple #[]) ∧ Hid (Only (foot b g pv) W w' ∧ IsRf n w' b g gc pv { D with st := st' }) := by
  have c0 := h.cells.1
  have cs := h.stable.cell hs
  have fs := h.stable.frozen s
  have HO : Hid (Only (foot b g pv) W (W.setCell ⟨g, s, none⟩ (.string t)) ∧ IsRf n (W.setCell ⟨g, s, none⟩ (.string t)) b g gc pv { D with st := st' }) := Lib.hid ⟨(Only.refl _ _).setCell (p := ⟨g, s, none⟩) (Or.inl (Or.inr (Or.inl rfl))) _, h.put hs t hl he⟩
  have hn := h.ok.n2
  have hs' : (s : Int) < n := by omega
  clear h he hl
  go_enter Try.func47, Try.ntmps47
  go_wp2
  go_end0
  exact ⟨rfl, HO⟩
end

end Go.Proofs.Ytenddmcepfkbaaa
