/- event's number and operation. -/
import Derived.Test.YtbnofoncapaabaaGreatDoorEvtParM
import Derived.Test.YtbnofoncapaabaaGreatDoorWords
import Derived.Test.YtbnofoncapaabaaGreatDoorShelf
namespace Go.Proofs.YtbnofoncapaabaaGreatDoor
open Go.RowKit
open Evt

/-- The library's errors for texts that are no numbers, and for numbers that are too great, in a world. -/
def Errs (w : World) : Prop := (∃ te pe, w.cell? ⟨3, 0, none⟩ = some (.iface te pe)) ∧ (∃ te pe, w.cell? ⟨4, 0, none⟩ = some (.iface te pe))
theorem Errs.below {w w' : World} (h : Errs w) (hb : Below w.heap.size w w') : Errs w' := by
  obtain ⟨⟨te, pe, hc⟩, ⟨te2, pe2, hc2⟩⟩ := h
  have lt : 3 < w.heap.size := Lib.lt_of_cell hc
  have lt2 : 4 < w.heap.size := Lib.lt_of_cell hc2
  exact ⟨⟨te, pe, (hb.cell (p := ⟨3, 0, none⟩) lt).trans hc⟩, ⟨te2, pe2, (hb.cell (p := ⟨4, 0, none⟩) lt2).trans hc2⟩⟩
def AtoiPost (s : ByteArray) (W : World) (e : Ending) (w' : World) : Prop := ∃ (n : Int) (ev : Value), e = .returned (.tuple #[.int .i64 n, ev]) ∧ (ev = .nilIface ∨ ∃ t p, ev = .iface t p) ∧ (∀ z, s.size ≤ 18 → Lib.atoi s.data.toList = some z → n = z ∧ ev = .nilIface) ∧ Below W.heap.size W w'
theorem atoi_post (s : ByteArray) (hs : s.size ≤ 281474976710656) (w : World) (h : Errs w) : Calls Tryz.prog 34 #[.string s] w (AtoiPost s w) := by
  obtain ⟨⟨te, pe, hc⟩, ⟨te2, pe2, hc2⟩⟩ := h
  by_cases hl : s.size ≤ 18
  · rcases hq : Lib.atoi s.data.toList with _ | n
    · exact (Tryz.strconv_Atoi_err s hl hq _ w hc (Or.inr ⟨_, _, rfl⟩)).mono fun e w' ⟨N, h1, _, _, h2⟩ => ⟨_, _, h1, Or.inr ⟨_, _, rfl⟩, (fun z _ hz => by rw [hq] at hz; cases hz), h2⟩
    · exact (Tryz.strconv_Atoi s n hl hq w).mono fun e w' ⟨h1, t, h2⟩ => ⟨_, _, h1, Or.inl rfl, (fun z _ hz => by rw [hq] at hz; cases hz; exact ⟨rfl, rfl⟩), by rw [h2]; exact Lib.bytesWorld_below _ _ _⟩
  · rcases hq : Lib.atoiAll s.data.toList with v | _ | _
    · exact (Tryz.strconv_Atoi_ok s (by omega) v hq w).mono fun e w' ⟨h1, h2⟩ => ⟨_, _, h1, Or.inl rfl, fun z hz _ => absurd hz hl, by
        rcases h2 with rfl | ⟨t, rfl⟩
        · exact Below.refl _ _
        · exact Lib.bytesWorld_below _ _ _⟩
    · exact (Tryz.strconv_Atoi_syntax s hs hq _ w hc (Or.inr ⟨_, _, rfl⟩)).mono fun e w' ⟨N, h1, _, _, h2⟩ => ⟨_, _, h1, Or.inr ⟨_, _, rfl⟩, fun z hz _ => absurd hz hl, h2⟩
    · exact (Tryz.strconv_Atoi_range s hs hq _ w hc2 (Or.inr ⟨_, _, rfl⟩)).mono fun e w' ⟨N, h1, _, _, h2⟩ => ⟨_, _, h1, Or.inr ⟨_, _, rfl⟩, fun z hz _ => absurd hz hl, h2⟩

set_option maxRecDepth 100000 in
set_option maxHeartbeats 4000000 in
theorem number_any (k : Nat) (t : ByteArray) (a : Int) (ho : okT (k, t.data.toList)) (ht : t.size ≤ 281474976710656) (W : World) (hE : Errs W) :
    Calls Tryz.prog 22 #[.agg #[.int .i64 (k : Int), .string t, .int .i64 a]] W fun e w' => e = .returned (.int .i64 (ktN (k, t.data.toList))) ∧ Below W.heap.size W w' := by
  obtain ⟨V, HV⟩ : ∃ w, Hid (w = W.alloc (.cells #[.int .i64 (k : Int), .string t, .int .i64 a] 55)) := ⟨_, Lib.hid rfl⟩
  obtain ⟨N, HN⟩ : ∃ N, Hid (N = W.heap.size) := ⟨_, Lib.hid rfl⟩
  have HB : Hid (Below W.heap.size W V) := Lib.hid (by rw [HV.out]; exact (Below.refl _ _).alloc (Nat.le_refl _) _)
  have HW : Hid (Whole V N 55 #[.int .i64 (k : Int), .string t, .int .i64 a]) := Lib.hid (by rw [HV.out, HN.out]; exact Whole.new _ _ _)
  have HA := Lib.hid (atoi_post t ht V (hE.below HB.out))
  obtain ⟨R, HR⟩ : ∃ R, Hid (R = ktN (k, t.data.toList)) := ⟨_, Lib.hid rfl⟩
  have HNo : Hid (k ≠ 2 → R = -1) := Lib.hid (fun h => by rw [HR.out]; unfold ktN; exact if_neg h)
  have HYes : Hid (k = 2 → t.size ≤ 18 ∧ Lib.atoi t.data.toList = some R) := Lib.hid (fun h => by
    obtain ⟨h1, n, h2⟩ := ho h
    refine ⟨Nat.le_trans (show t.size ≤ 7 from h1) (by omega), ?_⟩
    rw [HR.out]
    unfold ktN
    rw [if_pos h]
    dsimp only at h2 ⊢
    rw [h2]; rfl)
  rw [← HR.out]
  clear ho ht hE
  go_enter Tryz.func22, Tryz.ntmps22
  go_wp2_with fail
  rw [← HV.out, ← HN.out]
  refine HA.out.mono ?_
  rintro e w1 ⟨n, ev, rfl, hev, hz, hb⟩
  have HZ := Lib.hid hz
  have HB1 := Lib.hid (below_step HB.out hb)
  have c0 : w1.cell? ⟨N, 0, none⟩ = some (.int .i64 (k : Int)) := (whole_belowM HW.out hb).cell 0
  clear hb hz
  by_cases hk : k = 2
  · obtain ⟨h18, hat⟩ := HYes.out hk
    obtain ⟨rfl, rfl⟩ := HZ.out _ h18 hat
    subst hk
    clear hev h18 hat
    go_wp2_with fail
    go_ret
    exact ⟨rfl, HB1.out⟩
  · obtain rfl := HNo.out hk
    have hd : ((k : Int) == 2) = false := by simp; omega
    have hd' : ((k : Int) != 2) = true := by simp; omega
    rcases hev with rfl | ⟨t1, p1, rfl⟩
    all_goals
      go_wp2_with fail
      go_ret
      exact ⟨rfl, HB1.out⟩

namespace Evt
theorem opW_at {w : List UInt8} {k : Nat} (hk : k < 8) (hx : (wordsL.getD k []) = w) (hb : ∀ j, j < k → wordsL.getD j [] ≠ w) : opW w = k := by
  unfold opW
  have : wordsL.findIdx? (· == w) = some k := by
    rw [List.findIdx?_eq_some_iff_getElem]
    have hl : wordsL.length = 8 := rfl
    refine ⟨by omega, ?_, fun j hj => ?_⟩
    · have e : wordsL.getD k [] = wordsL[k]'(by omega) := by rw [List.getD_eq_getElem?_getD, List.getElem?_eq_getElem]; rfl
      rw [← e, hx]; simp
    · have e : wordsL.getD j [] = wordsL[j]'(by omega) := by rw [List.getD_eq_getElem?_getD, List.getElem?_eq_getElem]; rfl
      have := hb j hj
      rw [e] at this
      simpa using this
  rw [this]; rfl
theorem opW_none {w : List UInt8} (hb : ∀ j, j < 8 → wordsL.getD j [] ≠ w) : opW w = 0 := by
  unfold opW
  have : wordsL.findIdx? (· == w) = none := by
    rw [List.findIdx?_eq_none_iff]
    intro x hx
    obtain ⟨j, hj, rfl⟩ := List.getElem_of_mem hx
    have hl : wordsL.length = 8 := rfl
    have e : wordsL.getD j [] = wordsL[j] := by rw [List.getD_eq_getElem?_getD, List.getElem?_eq_getElem]; rfl
    have := hb j (by omega)
    rw [e] at this
    simpa using this
  rw [this]; rfl
theorem opW_bound (w : List UInt8) : 0 ≤ opW w ∧ opW w ≤ 7 := by
  unfold opW
  cases h : wordsL.findIdx? (· == w) with
  | none => simp
  | some k =>
    obtain ⟨hk, _⟩ := List.findIdx?_eq_some_iff_getElem.1 h
    have hl : wordsL.length = 8 := rfl
    simp only [Option.getD_some]
    omega
end Evt
theorem eq_bts {s : List UInt8} {t : ByteArray} : ((⟨s.toArray⟩ : ByteArray).toList == t.toList) = decide (s = t.data.toList) := by
  rw [ByteArray.toList_eq, ByteArray.toList_eq]
  by_cases h : s = t.data.toList
  · rw [decide_eq_true h, h]; simp
  · rw [decide_eq_false h]
    simpa using h
set_option maxRecDepth 100000 in
set_option maxHeartbeats 4000000 in
theorem operation_any (s : ByteArray) (W : World) (hT : WTab W) :
    Calls Tryz.prog 21 #[.string s] W fun e w' => e = .returned (.int .i64 (opW s.data.toList)) ∧ w' = W := by
  have HT := Lib.hid hT
  clear hT
  obtain ⟨R, HR⟩ : ∃ R, Hid (R = opW s.data.toList) := ⟨_, Lib.hid rfl⟩
  rw [← HR.out]
  go_enter Tryz.func21, Tryz.ntmps21
  go_wp2_with fail
  go_loop [4] (fun i => ∃ k : Nat, k ≤ 8 ∧ i = .int .i64 k ∧ Hid (∀ j, j < k → wordsL.getD j [] ≠ s.data.toList)) (fun i => 8 - (intOf i).toNat)
  case atStart => exact ⟨0, by omega, by go_num, Lib.hid (fun j h => by omega)⟩
  case round =>
    obtain ⟨k, hk, rfl, HK⟩ := hrel
    by_cases hk8 : k < 8
    · have hd : decide ((k : Int) < 8) = true := decide_eq_true (by omega)
      have hb0 : (0 : Int) ≤ k := by omega
      have hb1 : (k : Int) < 8 := by omega
      obtain ⟨x, Hx⟩ : ∃ x : ByteArray, Hid (x = ⟨(wordsL.getD k []).toArray⟩) := ⟨_, Lib.hid rfl⟩
      have cx : W.cell? ⟨0, k, none⟩ = some (.string x) := by
        rw [Hx.out]
        refine HT.out.cell ?_
        have hl : wordsL.length = 8 := rfl
        rw [List.getD_eq_getElem?_getD, List.getElem?_eq_getElem (by omega)]
        rfl
      obtain ⟨b, hb⟩ : ∃ b, (x.toList == s.toList) = b := ⟨_, rfl⟩
      have HBe : Hid (decide (wordsL.getD k [] = s.data.toList) = b) := Lib.hid (by rw [← hb, Hx.out, eq_bts])
      cases b with
      | true =>
        obtain rfl : R = (k : Int) := by
          rw [HR.out]
          exact opW_at hk8 (of_decide_eq_true HBe.out) HK.out
        go_wp2_with fail
        go_ret
        exact ⟨rfl, rfl⟩
      | false =>
        have HNx : Hid (∀ j, j < k + 1 → wordsL.getD j [] ≠ s.data.toList) := Lib.hid (fun j hj => by
          by_cases h : j < k
          · exact HK.out j h
          · obtain rfl : j = k := by omega
            exact of_decide_eq_false HBe.out)
        go_wp2_with fail
        go_round
        case rel => exact ⟨k + 1, by omega, by go_num, HNx⟩
        case measure => simp [intOf]; omega
    · obtain rfl : k = 8 := by omega
      obtain rfl : R = 0 := by rw [HR.out]; exact opW_none HK.out
      go_wp2_with fail
      go_ret
      exact ⟨rfl, rfl⟩
end Go.Proofs.YtbnofoncapaabaaGreatDoor
