/- The statement that all functions on tasks agree with the reference: its walk. -/
import Derived.Test.YtejgbfaampllaaaTskHead
import Derived.Test.YtejgbfaampllaaaTskFew
import Derived.Test.YtejgbfaampllaaaTskRefE
namespace Go.Proofs.Ytejgbfaampllaaa
open Go.RowKit

theorem rcrit_any (l : List Tk) (hf : ∀ t ∈ l, tkFine t) (hn : l.length ≤ 9223372036854775807) (ao : Option Addr) (cap : Nat) (W : World) (hl : IsTasks W ao l) :
    Calls Try.prog 14 #[.slice ao l.length cap] W fun e w' => e = .returned (.tuple #[.int .i64 (Tsk.critV l), .int .i64 (Tsk.orderE l)]) ∧ Below W.heap.size W w' := by
  by_cases he : Tsk.orderE l = 0
  · exact rcrit_yes l hf hn he ao cap W hl
  · exact rcrit_no l hf hn he ao cap W hl

set_option maxRecDepth 100000 in
set_option maxHeartbeats 8000000 in
theorem matches37_any (l : List Tk) (hn : l.length ≤ 9223372036854775807) (hf : ∀ t ∈ l, tkFine t) (ao : Option Addr) (cap : Nat) (done : List Bool) (hdn : done.length ≤ 9223372036854775807) (bo : Option Addr) (capb : Nat) (one : Int) (W : World) (hl : IsTasks W ao l) (hb : IsBools W bo done) :
    Calls Try.prog 3 #[.slice ao l.length cap, .slice bo done.length capb, .int .i64 one] W fun e w' => e = .returned (.bool true) ∧ Below W.heap.size W w' := by
  have HH := Lib.hid (head37_any W)
  have HF := Lib.hid fun w' (h : IsTasks w' ao l) => few_any l hf hn ao cap w' h
  have HL := Lib.hid hl
  have HD := Lib.hid hb
  have HO := Lib.hid fun w' (h : IsTasks w' ao l) => order_any l hf hn ao cap w' h
  have HRO := Lib.hid fun w' (h : IsTasks w' ao l) => rorder_any l hf hn ao cap w' h
  have HC := Lib.hid fun w' (h : IsTasks w' ao l) => crit_any l hf hn ao cap w' h
  have HRC := Lib.hid fun w' (h : IsTasks w' ao l) => rcrit_any l hf hn ao cap w' h
  have HU := Lib.hid fun w' (h : IsTasks w' ao l) (hd : IsBools w' bo done) => undo_any l hf hn done one ao bo cap capb w' h hd
  have HRU := Lib.hid fun w' (h : IsTasks w' ao l) (hd : IsBools w' bo done) => rundo_any l hf hn done one ao bo cap capb w' h hd
  have HV := Lib.hid fun w' (h : IsTasks w' ao l) => valid_any l hf hn ao cap w' h
  have HRV := Lib.hid fun w' (h : IsTasks w' ao l) => rvalid_any l hf hn ao cap w' h
  have HR := Lib.hid fun w' (h : IsTasks w' ao l) (hd : IsBools w' bo done) => ready_any l hf hn done hdn ao bo cap capb w' h hd
  have HRR := Lib.hid fun w' (h : IsTasks w' ao l) (hd : IsBools w' bo done) => rreadyl_any l hf hn done hdn ao bo cap capb w' h hd
  unfold OrderPost at HO HRO
  unfold UndoPost at HU HRU
  unfold ReadyPost at HR HRR
  have h40 : Hid (∀ k, (Tsk.orderV l).length ≤ k → (Tsk.orderV l).length ≤ k) := Lib.hid fun k h => h
  have HOl : Hid ((Tsk.ints (Tsk.orderV l)).length ≤ 9223372036854775807) := Lib.hid (by
    unfold Tsk.ints Tsk.orderV
    rw [List.length_map]
    split
    · have := (Tsk.order_good l).len; omega
    · simp)
  have HUl : Hid ((Tsk.undoV l done one).length ≤ 9223372036854775807) := Lib.hid (by
    unfold Tsk.undoV
    split
    · rw [Tsk.undoF_len]; exact hdn
    · simp)
  have HRl : Hid ((Tsk.ints (Tsk.readyV l done)).length ≤ 9223372036854775807) := Lib.hid (by
    unfold Tsk.ints Tsk.readyV
    rw [List.length_map]
    split
    · have := Tsk.readyUp_len l done l.length; omega
    · simp)
  have HIn := Lib.hid fun (ov : List Nat) (h : (Tsk.ints ov).length ≤ 9223372036854775807) (p q : Option Addr) (c d : Nat) (w' : World) (h1 : IsInts w' p (Tsk.ints ov)) (h2 : IsInts w' q (Tsk.ints ov)) => (show Calls Try.prog 19 #[.slice p ov.length c, .slice q ov.length d] w' (fun e w'' => e = .returned (.bool true) ∧ Below w'.heap.size w' w'') by
    have h3 := ints_any (Tsk.ints ov) (Tsk.ints ov) h p q c d w' h1 h2
    rw [decide_eq_true rfl] at h3
    have e : (Tsk.ints ov).length = ov.length := by simp [Tsk.ints]
    rw [e] at h3
    exact h3)
  have HBn := Lib.hid fun (ov : List Bool) (h : ov.length ≤ 9223372036854775807) (p q : Option Addr) (c d : Nat) (w' : World) (h1 : IsBools w' p ov) (h2 : IsBools w' q ov) => (show Calls Try.prog 20 #[.slice p ov.length c, .slice q ov.length d] w' (fun e w'' => e = .returned (.bool true) ∧ Below w'.heap.size w' w'') by
    have h3 := bools_any ov ov h p q c d w' h1 h2
    rw [decide_eq_true rfl] at h3
    exact h3)
  obtain ⟨n, Hn⟩ : ∃ n, Hid (n = l.length) := ⟨_, Lib.hid rfl⟩
  obtain ⟨m, Hm⟩ : ∃ n, Hid (n = done.length) := ⟨_, Lib.hid rfl⟩
  obtain ⟨ov, Hov⟩ : ∃ n, Hid (n = Tsk.orderV l) := ⟨_, Lib.hid rfl⟩
  obtain ⟨uv, Huv⟩ : ∃ n, Hid (n = Tsk.undoV l done one) := ⟨_, Lib.hid rfl⟩
  obtain ⟨rv, Hrv⟩ : ∃ n, Hid (n = Tsk.readyV l done) := ⟨_, Lib.hid rfl⟩
  obtain ⟨oe, Hoe⟩ : ∃ n, Hid (n = Tsk.orderE l) := ⟨_, Lib.hid rfl⟩
  obtain ⟨ue, Hue⟩ : ∃ n, Hid (n = Tsk.undoE l done one) := ⟨_, Lib.hid rfl⟩
  obtain ⟨cv, Hcv⟩ : ∃ n, Hid (n = Tsk.critV l) := ⟨_, Lib.hid rfl⟩
  obtain ⟨vb, Hvb⟩ : ∃ n, Hid (n = Tsk.validB l) := ⟨_, Lib.hid rfl⟩
  obtain ⟨fb, Hfb⟩ : ∃ n, Hid (n = Tsk.fewB l) := ⟨_, Lib.hid rfl⟩
  rw [← Hn.out, ← Hov.out, ← Hoe.out] at HO HRO
  rw [← Hn.out, ← Hcv.out, ← Hoe.out] at HC HRC
  rw [← Hn.out, ← Hm.out, ← Huv.out, ← Hue.out] at HU HRU
  rw [← Hn.out, ← Hvb.out] at HV HRV
  rw [← Hn.out, ← Hm.out, ← Hrv.out] at HR HRR
  rw [← Hn.out, ← Hfb.out] at HF
  rw [← Hov.out] at HOl
  rw [← Huv.out] at HUl
  rw [← Hrv.out] at HRl
  rw [← Hn.out, ← Hm.out]
  clear hl hb hf hn hdn h40
  go_enter Try.func3, Try.ntmps3
  go_wp2_with fail
  refine HH.out.mono ?_
  rintro e w1 ⟨rfl, hb⟩
  have HB1 := Lib.hid hb
  clear hb
  cases fb
  · go_wp2_with fail
    refine (HF.out _ (HL.out.below HB1.out)).mono ?_
    rintro e _ ⟨rfl, rfl⟩
    go_wp2
    go_ret
    exact ⟨rfl, HB1.out⟩
  · by_cases h60 : (60 : Int) < m
    · go_wp2_with fail
      refine (HF.out _ (HL.out.below HB1.out)).mono ?_
      rintro e _ ⟨rfl, rfl⟩
      go_wp2
      go_ret
      exact ⟨rfl, HB1.out⟩
    · go_wp2_with fail
      refine (HF.out _ (HL.out.below HB1.out)).mono ?_
      rintro e _ ⟨rfl, rfl⟩
      go_wp2_with fail
      refine (HO.out _ (HL.out.below HB1.out)).mono ?_
      rintro e w2 ⟨o1, k1, rfl, hb, hi⟩
      have HB2 := Lib.hid (below_step HB1.out hb)
      have HI1 := Lib.hid hi
      clear hb hi
      go_wp2_with fail
      refine (HRO.out _ (HL.out.below HB2.out)).mono ?_
      rintro e w3 ⟨o2, k2, rfl, hb, hi⟩
      have HB3 := Lib.hid (below_step HB2.out hb)
      have HI1 := Lib.hid (HI1.out.below hb)
      have HI2 := Lib.hid hi
      clear hb hi
      go_wp2_with fail
      refine (HC.out _ (HL.out.below HB3.out)).mono ?_
      rintro e w4 ⟨rfl, hb⟩
      have HB4 := Lib.hid (below_step HB3.out hb)
      have HI1 := Lib.hid (HI1.out.below hb)
      have HI2 := Lib.hid (HI2.out.below hb)
      clear hb
      go_wp2_with fail
      refine (HRC.out _ (HL.out.below HB4.out)).mono ?_
      rintro e w5 ⟨rfl, hb⟩
      have HB5 := Lib.hid (below_step HB4.out hb)
      have HI1 := Lib.hid (HI1.out.below hb)
      have HI2 := Lib.hid (HI2.out.below hb)
      clear hb
      go_wp2_with fail
      refine (HU.out _ (HL.out.below HB5.out) (HD.out.below HB5.out)).mono ?_
      rintro e w6 ⟨o3, k3, rfl, hb, hi⟩
      have HB6 := Lib.hid (below_step HB5.out hb)
      have HI1 := Lib.hid (HI1.out.below hb)
      have HI2 := Lib.hid (HI2.out.below hb)
      have HI3 := Lib.hid hi
      clear hb hi
      go_wp2_with fail
      refine (HRU.out _ (HL.out.below HB6.out) (HD.out.below HB6.out)).mono ?_
      rintro e w7 ⟨o4, k4, rfl, hb, hi⟩
      have HB7 := Lib.hid (below_step HB6.out hb)
      have HI1 := Lib.hid (HI1.out.below hb)
      have HI2 := Lib.hid (HI2.out.below hb)
      have HI3 := Lib.hid (HI3.out.below hb)
      have HI4 := Lib.hid hi
      clear hb hi
      go_wp2_with fail
      refine (HV.out _ (HL.out.below HB7.out)).mono ?_
      rintro e w8 ⟨rfl, hb⟩
      have HB8 := Lib.hid (below_step HB7.out hb)
      have HI1 := Lib.hid (HI1.out.below hb)
      have HI2 := Lib.hid (HI2.out.below hb)
      have HI3 := Lib.hid (HI3.out.below hb)
      have HI4 := Lib.hid (HI4.out.below hb)
      clear hb
      go_wp2_with fail
      refine (HRV.out _ (HL.out.below HB8.out)).mono ?_
      rintro e w9 ⟨rfl, hb⟩
      have HB9 := Lib.hid (below_step HB8.out hb)
      have HI1 := Lib.hid (HI1.out.below hb)
      have HI2 := Lib.hid (HI2.out.below hb)
      have HI3 := Lib.hid (HI3.out.below hb)
      have HI4 := Lib.hid (HI4.out.below hb)
      clear hb
      have evb : (vb == vb) = true := by cases vb <;> rfl
      go_wp2_with fail
      refine (HIn.out ov HOl.out o1 o2 k1 k2 _ HI1.out HI2.out).mono ?_
      rintro e w10 ⟨rfl, hb⟩
      have HB10 := Lib.hid (below_step HB9.out hb)
      have HI3 := Lib.hid (HI3.out.below hb)
      have HI4 := Lib.hid (HI4.out.below hb)
      clear hb
      go_wp2_with fail
      refine (HBn.out uv HUl.out o3 o4 k3 k4 _ HI3.out HI4.out).mono ?_
      rintro e w11 ⟨rfl, hb⟩
      have HB11 := Lib.hid (below_step HB10.out hb)
      clear hb
      go_wp2_with fail
      refine (HR.out _ (HL.out.below HB11.out) (HD.out.below HB11.out)).mono ?_
      rintro e w12 ⟨o5, k5, rfl, hb, hi⟩
      have HB12 := Lib.hid (below_step HB11.out hb)
      have HI5 := Lib.hid hi
      clear hb hi
      go_wp2_with fail
      refine (HRR.out _ (HL.out.below HB12.out) (HD.out.below HB12.out)).mono ?_
      rintro e w13 ⟨o6, k6, rfl, hb, hi⟩
      have HB13 := Lib.hid (below_step HB12.out hb)
      have HI5 := Lib.hid (HI5.out.below hb)
      have HI6 := Lib.hid hi
      clear hb hi
      go_wp2_with fail
      refine (HIn.out rv HRl.out o5 o6 k5 k6 _ HI5.out HI6.out).mono ?_
      rintro e w14 ⟨rfl, hb⟩
      have HB14 := Lib.hid (below_step HB13.out hb)
      clear hb
      go_wp2
      go_ret
      exact ⟨rfl, HB14.out⟩

end Go.Proofs.Ytejgbfaampllaaa
