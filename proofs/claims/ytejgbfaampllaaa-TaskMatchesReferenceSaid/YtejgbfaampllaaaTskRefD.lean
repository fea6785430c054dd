/- The walk of the reference: what is ready. -/
import Derived.Test.YtejgbfaampllaaaTskRefC
namespace Go.Proofs.Ytejgbfaampllaaa
open Go.RowKit

set_option maxRecDepth 100000 in
set_option maxHeartbeats 4000000 in
theorem rreadyl_yes (l : List Tk) (hf : ∀ t ∈ l, tkFine t) (hv : Tsk.validB l = true) (done : List Bool) (hd : done.length = l.length) (ao bo : Option Addr) (cap capb : Nat) (W : World) (hl : IsTasks W ao l) (hb : IsBools W bo done) :
    Calls Try.prog 22 #[.slice ao l.length cap, .slice bo done.length capb] W (ReadyPost l done W) := by
  have hn := (Tsk.validB_iff.1 hv).1
  obtain ⟨n, Hn⟩ : ∃ n, Hid (n = l.length) := ⟨_, Lib.hid rfl⟩
  have HV := Lib.hid (rvalid_any l hf (by omega) ao cap W hl)
  rw [hv] at HV
  have HDl : Hid (done.length = n) := Lib.hid (by rw [hd, Hn.out])
  rw [hd]
  have HRd := Lib.hid fun W' (hb : IsBools W' bo done) (hl : IsTasks W' ao l) i (hi : i < n) => rready_any l hv n Hn.out done HDl.out ao bo cap capb W' hl hb i hi
  rw [← Hn.out] at HV hn ⊢
  have HL := Lib.hid hl
  have HD := Lib.hid hb
  have HRes : Hid (Tsk.readyV l done = Tsk.readyUp l done n) := Lib.hid (by unfold Tsk.readyV; rw [hv, decide_eq_true hd, Hn.out]; rfl)
  obtain ⟨i1, hi1, hy0, hy1, hy2⟩ := info_parts info_int
  have hn' : (n : Int) ≤ 40 := by omega
  have hnn : ((n : Int) != n) = false := by simp
  clear hf hv hl hd hb
  go_enter Try.func22, Try.ntmps22
  go_wp2_with fail
  refine HV.out.mono ?_
  rintro e w1 ⟨rfl, hb⟩
  have HB0 : Hid (Below W.heap.size W w1) := Lib.hid hb
  clear hb
  go_wp2
  go_loopw [5, 6] (fun v i wr => ∃ k : Nat, k ≤ n ∧ i = .int .i64 k ∧ ∃ vo m vc, v = .slice vo m vc ∧ Hid (Below W.heap.size W wr ∧ wr.ownsRow W.heap.size 3 1 (.slice vo m vc) m (ordC (Tsk.readyUp l done k)) ∧ m = (Tsk.readyUp l done k).length)) (fun _ i _ => n - (intOf i).toNat)
  case atStart => exact ⟨0, by omega, rfl, none, 0, 0, rfl, Lib.hid ⟨HB0.out, World.ownsRow_nil _ _ _ _, rfl⟩⟩
  case round =>
    obtain ⟨k, hk, rfl, vo, m, vc, rfl, HI⟩ := hrel
    by_cases hlt : k < n
    · have hlt' : (k : Int) < n := by omega
      have HC := Lib.hid (HRd.out wr (HD.out.below HI.out.1) (HL.out.below HI.out.1) k hlt)
      obtain ⟨rdy, Hrdy⟩ : ∃ r, Hid (r = Tsk.rdB l done k) := ⟨_, Lib.hid rfl⟩
      rw [← Hrdy.out] at HC
      have HRd1 : Hid (Tsk.rdB l done k = rdy) := Lib.hid Hrdy.out.symm
      cases rdy
      · go_wp2_with fail
        refine HC.out.mono ?_
        rintro e _ ⟨rfl, rfl⟩
        go_wp2
        go_roundw
        case rel => exact ⟨k + 1, by omega, by go_num, vo, m, vc, rfl, Lib.hid ⟨HI.out.1, by rw [Tsk.readyUp_succ, HRd1.out]; exact HI.out.2.1, by rw [Tsk.readyUp_succ, HRd1.out]; exact HI.out.2.2⟩⟩
        case measure => simp [intOf]; omega
      · go_wp2_with fail
        refine HC.out.mono ?_
        rintro e _ ⟨rfl, rfl⟩
        have HN : Hid (∀ (i : Nat) (u : Value), [Value.int .i64 (k : Int)][i]? = some u → (wr.alloc (.cells #[.int .i64 k] 3)).cell? ((⟨wr.heap.size, 0, none⟩ : Addr).add i) = some u) := Lib.hid (by
          intro i u hu
          have e : (⟨wr.heap.size, 0, none⟩ : Addr).add i = ⟨wr.heap.size, i, none⟩ := by unfold Addr.add; split <;> simp_all
          rw [e, cell_alloc, if_pos rfl]
          simpa using hu)
        have hm40 : Hid (m ≤ 40) := Lib.hid (by have := HI.out.2.2; have := Tsk.readyUp_len l done k; omega)
        go_wp2_with (at_builtin; go_loud (refine wpList_append_own _ rfl (.tmp 27) (.tmp 29) 26 rfl W.heap.size 3 i1 (.int .i64 0) 1 8 Try.underlying26 hi1 hy0 hy1 hy2 rfl (by decide) _ _ _ rfl (HI.out.2.1.alloc _) ⟨wr.heap.size, 0, none⟩ 1 1 [.int .i64 k] rfl rfl HN.out (by simp [Value.oneCell']) (by have := hm40.out; unfold maxLen; omega) (by have := hm40.out; omega) (by have := HI.out.1.size; rw [size_alloc]; omega) ?_); intro v' w10 hown hgrow _; obtain ⟨g', cap', rfl⟩ := owns_succ hown; have HW10 := Lib.hid hown; have HG10 := Lib.hid hgrow; clear hown hgrow)
        go_roundw
        case rel =>
          refine ⟨k + 1, by omega, by go_num, some ⟨g', 0, none⟩, m + 1, cap', rfl, Lib.hid ⟨?_, ?_, ?_⟩⟩
          · exact (HI.out.1.alloc HI.out.1.size _).grown HG10.out (by have := HI.out.1.size; rw [size_alloc]; omega) (fun j e => (HI.out.2.1.lt j e).1)
          · rw [Tsk.readyUp_succ, HRd1.out, if_pos rfl]
            have e : ordC (Tsk.readyUp l done k ++ [k]) = ordC (Tsk.readyUp l done k) ++ [.int .i64 k] := by simp [ordC]
            rw [e]
            exact HW10.out
          · rw [Tsk.readyUp_succ, HRd1.out, if_pos rfl, List.length_append, ← HI.out.2.2]
            rfl
        case measure => simp [intOf]; omega
    · obtain rfl : n = k := by omega
      have HP : Hid (ReadyPost l done W (.returned (.slice vo m vc)) wr) := Lib.hid (by
        unfold ReadyPost
        rw [HRes.out, ← HI.out.2.2]
        exact ⟨vo, vc, rfl, HI.out.1, ints_of_row HI.out.2.1 HI.out.2.2⟩)
      go_wp2
      go_ret
      exact HP.out

theorem rreadyl_any (l : List Tk) (hf : ∀ t ∈ l, tkFine t) (hn : l.length ≤ 9223372036854775807) (done : List Bool) (hdn : done.length ≤ 9223372036854775807) (ao bo : Option Addr) (cap capb : Nat) (W : World) (hl : IsTasks W ao l) (hb : IsBools W bo done) :
    Calls Try.prog 22 #[.slice ao l.length cap, .slice bo done.length capb] W (ReadyPost l done W) := by
  by_cases hg : Tsk.validB l = true ∧ done.length = l.length
  · exact rreadyl_yes l hf hg.1 done hg.2 ao bo cap capb W hl hb
  · have HV := Lib.hid (rvalid_any l hf hn ao cap W hl)
    have HP : Hid (∀ w', Below W.heap.size W w' → ReadyPost l done W (.returned (.slice none 0 0)) w') := Lib.hid fun w' hb => by
      have h2 : Tsk.readyV l done = [] := by
        unfold Tsk.readyV
        rw [if_neg]
        simpa using hg
      unfold ReadyPost
      rw [h2]
      exact ⟨none, 0, rfl, hb, Or.inl rfl⟩
    obtain ⟨n, Hn⟩ : ∃ n, Hid (n = l.length) := ⟨_, Lib.hid rfl⟩
    obtain ⟨m, Hm⟩ : ∃ n, Hid (n = done.length) := ⟨_, Lib.hid rfl⟩
    rw [← Hn.out, ← Hm.out] at hg
    rw [← Hn.out] at HV
    rw [← Hn.out, ← Hm.out]
    have hcase : Tsk.validB l = false ∨ Tsk.validB l = true ∧ ((n : Int) != m) = true := by
      cases hv : Tsk.validB l
      · exact Or.inl rfl
      · refine Or.inr ⟨rfl, ?_⟩
        have : ¬ m = n := fun e => hg ⟨hv, e⟩
        simp; omega
    clear hf hl hb hg hn hdn
    rcases hcase with h1 | ⟨h1, h2⟩
    all_goals
      rw [h1] at HV
      clear h1
      go_enter Try.func22, Try.ntmps22
      go_wp2_with fail
      refine HV.out.mono ?_
      rintro e w1 ⟨rfl, hb⟩
      have HB0 := Lib.hid hb
      clear hb
      go_wp2
      go_ret
      exact HP.out _ HB0.out

end Go.Proofs.Ytejgbfaampllaaa
