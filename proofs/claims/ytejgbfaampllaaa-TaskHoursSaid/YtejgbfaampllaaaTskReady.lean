/- The walk: the tasks that are ready. -/
import Derived.Test.YtejgbfaampllaaaTskCrit
import Derived.Test.YtejgbfaampllaaaTskDone
import Derived.Test.YtejgbfaampllaaaTskBools
namespace Go.Proofs.Ytejgbfaampllaaa
open Go.RowKit

def ReadyPost (l : List Tk) (done : List Bool) (W : World) (e : Ending) (w' : World) : Prop :=
  ∃ ao cap, e = .returned (.slice ao (Tsk.readyV l done).length cap) ∧ Below W.heap.size W w' ∧ IsInts w' ao (Tsk.ints (Tsk.readyV l done))

set_option maxRecDepth 100000 in
set_option maxHeartbeats 4000000 in
theorem ready_yes (l : List Tk) (hf : ∀ t ∈ l, tkFine t) (hv : Tsk.validB l = true) (done : List Bool) (hd : done.length = l.length) (ao bo : Option Addr) (cap capb : Nat) (W : World) (hl : IsTasks W ao l) (hb : IsBools W bo done) :
    Calls Try.prog 21 #[.slice ao l.length cap, .slice bo done.length capb] W (ReadyPost l done W) := by
  have hn := (Tsk.validB_iff.1 hv).1
  obtain ⟨n, Hn⟩ : ∃ n, Hid (n = l.length) := ⟨_, Lib.hid rfl⟩
  have HV := Lib.hid fun w' (h : IsTasks w' ao l) => valid_any l hf (by omega) ao cap w' h
  rw [hv] at HV
  have HDl : Hid (done.length = n) := Lib.hid (by rw [hd, Hn.out])
  rw [hd]
  rw [← Hn.out] at HV hn ⊢
  have HVal := Lib.hid (Tsk.validB_iff.1 hv).2
  have HF := Lib.hid hf
  have HL := Lib.hid hl
  have HD := Lib.hid hb
  have HRes : Hid (Tsk.readyV l done = Tsk.readyUp l done n) := Lib.hid (by unfold Tsk.readyV; rw [hv, decide_eq_true hd, Hn.out]; rfl)
  have HEnt : Hid (∀ (c : Addr) x w, (callFunc 31 #[.int .i64 x, .pointer (some c)]).run Try.prog w = .ok (.enter 31 #[.int .i64 x, .pointer (some c)]) w) := Lib.hid fun c x w => by kernel_rfl
  obtain ⟨i1, hi1, hy0, hy1, hy2⟩ := info_parts info_int
  have hn' : (n : Int) ≤ 40 := by omega
  have hnn : ((n : Int) != n) = false := by simp
  clear hf hv hl hd hb
  go_enter Try.func21, Try.ntmps21
  go_wp2_with fail
  refine (HV.out _ (HL.out.below ((Below.refl _ _).alloc (Nat.le_refl _) _))).mono ?_
  rintro e w1 ⟨rfl, hb⟩
  have HB0 : Hid (Below W.heap.size W w1) := Lib.hid (((Below.refl _ _).alloc (Nat.le_refl _) _).trans (hb.mono (by rw [size_alloc]; omega)))
  have HW0 : Hid (Whole w1 W.heap.size 23 #[.slice bo n capb]) := Lib.hid ((hb.block W.heap.size (by rw [size_alloc]; omega)).trans (Whole.new W _ _))
  have q0 : w1.cell? ⟨W.heap.size, 0, none⟩ = some (.slice bo n capb) := HW0.out.cell 0
  clear hb
  go_wp2
  clear q0
  go_loopw [5, 20] (fun v i wr => ∃ k : Nat, k ≤ n ∧ i = .int .i64 k ∧ ∃ vo m vc, v = .slice vo m vc ∧ Hid (Below W.heap.size W wr ∧ Whole wr W.heap.size 23 #[.slice bo n capb] ∧ wr.ownsRow W.heap.size 3 1 (.slice vo m vc) m (ordC (Tsk.readyUp l done k)) ∧ m = (Tsk.readyUp l done k).length)) (fun _ i _ => n - (intOf i).toNat)
  case atStart => exact ⟨0, by omega, rfl, none, 0, 0, rfl, Lib.hid ⟨HB0.out, HW0.out, World.ownsRow_nil _ _ _ _, rfl⟩⟩
  case round =>
    obtain ⟨k, hk, rfl, vo, m, vc, rfl, HI⟩ := hrel
    by_cases hlt : k < n
    · have hlt' : (k : Int) < n := by omega
      have hkl : k < l.length := by rw [← Hn.out]; exact hlt
      have hkd : k < done.length := by rw [HDl.out]; exact hlt
      obtain ⟨bk, off, rfl, hbk, hact⟩ := (HL.out.below HI.out.1).at hkl
      obtain ⟨t, Ht⟩ : ∃ t, Hid (t = l[k]) := ⟨_, Lib.hid rfl⟩
      rw [← Ht.out] at hact
      have HFin : Hid (tkFine t) := Lib.hid (by rw [Ht.out]; exact HF.out _ (List.getElem_mem _))
      have HNe : Hid (Tsk.needsAt l k = Tsk.needs t) := Lib.hid (by rw [Tsk.needsAt_get hkl, Ht.out])
      have HFt : Hid (Tsk.fineTB n t = true) := Lib.hid (by rw [Hn.out, Ht.out]; exact HVal.out _ (List.getElem_mem _))
      have HAN := Lib.hid (Tsk.all_needs HNe.out (Tsk.dn done))
      obtain ⟨hh, sk, ba, af⟩ := t
      obtain ⟨c1, c2, c3, ao2, cap2, c4, hin⟩ := hact
      simp only at c1 c2 c3 c4 hin
      obtain ⟨mm, Hm⟩ : ∃ m, Hid (m = af.length) := ⟨_, Lib.hid rfl⟩
      rw [← Hm.out] at c4
      have HIn := Lib.hid hin
      obtain ⟨bd, od, rfl, hbd, hdk⟩ := (HD.out.below HI.out.1).at hkd
      obtain ⟨dk, Hdk⟩ : ∃ x, Hid (x = done[k]) := ⟨_, Lib.hid rfl⟩
      rw [← Hdk.out] at hdk
      have HDk : Hid (Tsk.dn done k = dk) := Lib.hid (by rw [Tsk.dn_get hkd, Hdk.out])
      have v1 : wr.cell? ⟨W.heap.size, 0, none⟩ = some (.slice (some ⟨bd, od, none⟩) n capb) := HI.out.2.1.cell 0
      have hbl := HI.out.2.1.lt
      clear hin
      cases dk
      · go_wp2_with fail
        obtain ⟨W8, HW8⟩ : ∃ x, Hid (x = wr.alloc (.cells #[.int .i64 hh, .int .i64 sk, .bool ba, .slice ao2 mm cap2] 41)) := ⟨_, Lib.hid rfl⟩
        have hbl8 : Below wr.heap.size wr W8 := by rw [HW8.out]; exact (Below.refl _ _).alloc (Nat.le_refl _) _
        have HB8 : Hid (Below W.heap.size W W8) := Lib.hid (below_step HI.out.1 hbl8)
        have HV8 : Hid (Whole W8 W.heap.size 23 #[.slice (some ⟨bd, od, none⟩) n capb]) := Lib.hid (by rw [HW8.out]; exact HI.out.2.1.alloc _)
        have HR8 : Hid (W8.ownsRow W.heap.size 3 1 (.slice vo m vc) m (ordC (Tsk.readyUp l done k))) := Lib.hid (by rw [HW8.out]; exact HI.out.2.2.1.alloc _)
        have HIn8 : Hid (IsInts W8 ao2 af) := Lib.hid (HIn.out.below hbl8)
        rw [← HW8.out]
        clear c1 c2 c3 c4 v1 hbl hbl8 hdk
        have v1 : W8.cell? ⟨W.heap.size, 0, none⟩ = some (.slice (some ⟨bd, od, none⟩) n capb) := HV8.out.cell 0
        obtain ⟨rdy, Hrdy⟩ : ∃ r, Hid (r = af.all fun x => Tsk.dn done x.toNat) := ⟨_, Lib.hid rfl⟩
        have HAll := Lib.hid (all_any 31 ⟨W.heap.size, 0, none⟩ (HEnt.out _) af HFin.out.1 ao2 cap2 (fun x => Tsk.dn done x.toNat) W8 HIn8.out (fun x hx => by
          obtain ⟨q, hq, rfl⟩ := List.getElem_of_mem hx
          have h1 := Tsk.stepB_iff.1 (Tsk.fineB_iff.1 (Tsk.fineTB_iff.1 HFt.out).2 q hq)
          simp only at h1
          rw [Tsk.getD_get hq] at h1
          obtain ⟨y, hy⟩ : ∃ y : Nat, af[q] = (y : Int) := ⟨af[q].toNat, by omega⟩
          rw [hy] at h1 ⊢
          rw [Int.toNat_natCast]
          have hyd : y < done.length := by rw [HDl.out]; omega
          obtain ⟨b5, o5, he5, _, h5⟩ := (HD.out.below HB8.out).at hyd
          simp only [Option.some.injEq, Addr.mk.injEq, and_true] at he5
          obtain ⟨rfl, rfl⟩ := he5
          rw [Tsk.dn_get hyd]
          exact ask_ready y W.heap.size bd od n capb _ W8 v1 (by omega) h5))
        rw [← Hrdy.out, ← Hm.out] at HAll
        have HRd : Hid (Tsk.rdB l done k = rdy) := Lib.hid (by
          rw [Hrdy.out]
          unfold Tsk.rdB Tsk.needsDone
          rw [HDk.out, HAN.out]
          rfl)
        cases rdy
        · refine HAll.out.mono ?_
          rintro e _ ⟨rfl, rfl⟩
          go_wp2
          go_roundw
          case rel => exact ⟨k + 1, by omega, by go_num, vo, m, vc, rfl, Lib.hid ⟨HB8.out, HV8.out, by rw [Tsk.readyUp_succ, HRd.out]; exact HR8.out, by rw [Tsk.readyUp_succ, HRd.out]; exact HI.out.2.2.2⟩⟩
          case measure => simp [intOf]; omega
        · refine HAll.out.mono ?_
          rintro e _ ⟨rfl, rfl⟩
          have HN : Hid (∀ (i : Nat) (u : Value), [Value.int .i64 (k : Int)][i]? = some u → (W8.alloc (.cells #[.int .i64 k] 3)).cell? ((⟨W8.heap.size, 0, none⟩ : Addr).add i) = some u) := Lib.hid (by
            intro i u hu
            have e : (⟨W8.heap.size, 0, none⟩ : Addr).add i = ⟨W8.heap.size, i, none⟩ := by unfold Addr.add; split <;> simp_all
            rw [e, cell_alloc, if_pos rfl]
            simpa using hu)
          have hm40 : Hid (m ≤ 40) := Lib.hid (by have := HI.out.2.2.2; have := Tsk.readyUp_len l done k; omega)
          go_wp2_with (at_builtin; go_loud (refine wpList_append_own _ rfl (.tmp 36) (.tmp 38) 26 rfl W.heap.size 3 i1 (.int .i64 0) 1 8 Try.underlying26 hi1 hy0 hy1 hy2 rfl (by decide) _ _ _ rfl (HR8.out.alloc _) ⟨W8.heap.size, 0, none⟩ 1 1 [.int .i64 k] rfl rfl HN.out (by simp [Value.oneCell']) (by have := hm40.out; unfold maxLen; omega) (by have := hm40.out; omega) (by have := HB8.out.size; rw [size_alloc]; omega) ?_); intro v' w10 hown hgrow _; obtain ⟨g', cap', rfl⟩ := owns_succ hown; have HW10 := Lib.hid hown; have HG10 := Lib.hid hgrow; clear hown hgrow)
          go_roundw
          case rel =>
            refine ⟨k + 1, by omega, by go_num, some ⟨g', 0, none⟩, m + 1, cap', rfl, Lib.hid ⟨?_, ?_, ?_, ?_⟩⟩
            · exact (HB8.out.alloc HB8.out.size _).grown HG10.out (by have := HB8.out.size; rw [size_alloc]; omega) (fun j e => (HR8.out.lt j e).1)
            · have hne : (Value.slice vo m vc).ownBlock ≠ some W.heap.size := owns_ne HR8.out HV8.out (by decide)
              exact (HG10.out.block W.heap.size (by rw [size_alloc]; have := HV8.out.lt; omega) (fun hh => hne hh.symm)).trans (HV8.out.alloc _)
            · rw [Tsk.readyUp_succ, HRd.out, if_pos rfl]
              have e : ordC (Tsk.readyUp l done k ++ [k]) = ordC (Tsk.readyUp l done k) ++ [.int .i64 k] := by simp [ordC]
              rw [e]
              exact HW10.out
            · rw [Tsk.readyUp_succ, HRd.out, if_pos rfl, List.length_append, ← HI.out.2.2.2]
              rfl
          case measure => simp [intOf]; omega
      · have HRd : Hid (Tsk.rdB l done k = false) := Lib.hid (by unfold Tsk.rdB; rw [HDk.out]; rfl)
        go_wp2
        go_roundw
        case rel => exact ⟨k + 1, by omega, by go_num, vo, m, vc, rfl, Lib.hid ⟨HI.out.1.alloc HI.out.1.size _, HI.out.2.1.alloc _, by rw [Tsk.readyUp_succ, HRd.out]; exact HI.out.2.2.1.alloc _, by rw [Tsk.readyUp_succ, HRd.out]; exact HI.out.2.2.2⟩⟩
        case measure => simp [intOf]; omega
    · obtain rfl : n = k := by omega
      have HP : Hid (ReadyPost l done W (.returned (.slice vo m vc)) wr) := Lib.hid (by
        unfold ReadyPost
        rw [HRes.out, ← HI.out.2.2.2]
        exact ⟨vo, vc, rfl, HI.out.1, ints_of_row HI.out.2.2.1 HI.out.2.2.2⟩)
      go_wp2
      go_ret
      exact HP.out

theorem ready_any (l : List Tk) (hf : ∀ t ∈ l, tkFine t) (hn : l.length ≤ 9223372036854775807) (done : List Bool) (hdn : done.length ≤ 9223372036854775807) (ao bo : Option Addr) (cap capb : Nat) (W : World) (hl : IsTasks W ao l) (hb : IsBools W bo done) :
    Calls Try.prog 21 #[.slice ao l.length cap, .slice bo done.length capb] W (ReadyPost l done W) := by
  by_cases hg : Tsk.validB l = true ∧ done.length = l.length
  · exact ready_yes l hf hg.1 done hg.2 ao bo cap capb W hl hb
  · have HV := Lib.hid fun w' (h : IsTasks w' ao l) => valid_any l hf hn ao cap w' h
    have HL := Lib.hid hl
    have HP : Hid (∀ w', Below W.heap.size W w' → ReadyPost l done W (.returned (.slice none 0 0)) w') := Lib.hid fun w' hb => by
      have h2 : Tsk.readyV l done = [] := by
        unfold Tsk.readyV
        rw [if_neg]
        simpa using hg
      unfold ReadyPost
      rw [h2]
      exact ⟨none, 0, rfl, hb, Or.inl rfl⟩
    obtain ⟨n, Hn⟩ : ∃ n, Hid (n = l.length) := ⟨_, Lib.hid rfl⟩
    obtain ⟨m, Hm⟩ : ∃ n, Hid (n = done.length) := ⟨_, Lib.hid rfl⟩
    rw [← Hn.out, ← Hm.out] at hg
    rw [← Hn.out] at HV
    rw [← Hn.out, ← Hm.out]
    have hcase : Tsk.validB l = false ∨ Tsk.validB l = true ∧ ((m : Int) != n) = true := by
      cases hv : Tsk.validB l
      · exact Or.inl rfl
      · refine Or.inr ⟨rfl, ?_⟩
        have : ¬ m = n := fun e => hg ⟨hv, e⟩
        simp; omega
    clear hf hl hb hg hn hdn
    rcases hcase with h1 | ⟨h1, h2⟩
    all_goals
      rw [h1] at HV
      clear h1
      go_enter Try.func21, Try.ntmps21
      go_wp2_with fail
      refine (HV.out _ (HL.out.below ((Below.refl _ _).alloc (Nat.le_refl _) _))).mono ?_
      rintro e w1 ⟨rfl, hb⟩
      have HB0 : Hid (Below W.heap.size W w1) := Lib.hid (((Below.refl _ _).alloc (Nat.le_refl _) _).trans (hb.mono (by rw [size_alloc]; omega)))
      have q0 : w1.cell? ⟨W.heap.size, 0, none⟩ = some (.slice bo m capb) := by
        rw [hb.cell (p := ⟨W.heap.size, 0, none⟩) (by rw [size_alloc]; show W.heap.size < _; omega), cell_alloc, if_pos rfl]; rfl
      clear hb
      go_wp2
      go_ret
      exact HP.out _ HB0.out

end Go.Proofs.Ytejgbfaampllaaa
