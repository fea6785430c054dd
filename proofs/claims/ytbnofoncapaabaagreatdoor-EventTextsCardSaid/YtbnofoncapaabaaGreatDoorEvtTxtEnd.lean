/- EventTexts, with what it calls. -/
import Derived.Test.YtbnofoncapaabaaGreatDoorEvtHead
import Derived.Test.YtbnofoncapaabaaGreatDoorEvtShort
import Derived.Test.YtbnofoncapaabaaGreatDoorEvtTexts
namespace Go.Proofs.YtbnofoncapaabaaGreatDoor
open Go.RowKit
open Evt

namespace Evt
theorem st_nm {s : ByteArray} (h : nm s = true) : St s := by
  have h1 := nm_len (s := s) h
  have e : s.data.toList.length = s.size := rfl
  unfold St
  omega
theorem sz_valid {x : Ev} (h : valid x = true) : Sz x := by
  obtain ⟨ho, hd, hp, hk, hr⟩ := (valid_iff x).1 h
  obtain ⟨k1, k2, k4, k6⟩ := (ok_iff x).1 hk
  obtain ⟨r1, r2, r6, r4⟩ := (rest_iff x).1 hr
  have hi : ∀ z : Int, 0 ≤ z ∧ z ≤ 1000000 → I64 z := fun z hz => i64_num (by omega)
  have hu : ∀ a b : Int, isUse a b = true → I64 a ∧ I64 b := fun a b h => by
    unfold isUse at h
    simp only [Bool.and_eq_true, decide_eq_true_eq] at h
    exact ⟨hi a (by omega), hi b (by omega)⟩
  have he : ∀ s : ByteArray, s = emp → St s := fun s e => by rw [e]; exact st_emp
  have hz : ∀ z : Int, z = 0 → I64 z := fun z e => by rw [e]; exact i64_zero
  have huse : (I64 x.k0 ∧ I64 x.k1) ∧ (I64 x.c0 ∧ I64 x.c1) ∧ (I64 x.d0 ∧ I64 x.d1) := by
    rcases r4 with q | ⟨q1, q2, q3, q4, q5, q6⟩
    · exact ⟨hu _ _ (k4 q).1, hu _ _ (k4 q).2.1, hu _ _ (k4 q).2.2⟩
    · exact ⟨⟨hz _ q1, hz _ q2⟩, ⟨hz _ q3, hz _ q4⟩, ⟨hz _ q5, hz _ q6⟩⟩
  have hkey : St x.key ∧ St x.value := by
    rcases r6 with q | q
    · refine ⟨st_nm (k6 q).1, ?_⟩
      have := (k6 q).2
      simp only [Bool.and_eq_true, decide_eq_true_eq] at this
      unfold St
      omega
    · exact ⟨he _ q.1, he _ q.2⟩
  have hin : St x.into ∧ St x.slot := by
    rcases r2 with q | q
    · exact ⟨st_nm (k2 q).1, st_nm (k2 q).2.2⟩
    · exact ⟨he _ q.1, he _ q.2⟩
  exact ⟨hi _ (by omega), hi _ (by omega), st_nm hp, r1.elim (fun q => st_nm (k1 q)) (he _), hin.1, hin.2, hkey.1, hkey.2, huse.1.1, huse.1.2, huse.2.1.1, huse.2.1.2, huse.2.2.1, huse.2.2.2⟩
end Evt
noncomputable def txOf (x : Ev) : ByteArray := if Evt.valid x = true then ⟨(textE x).toArray⟩ else ⟨#[]⟩
theorem text_any (x : Ev) (hx : Sz x) (W : World) (hT : WTab W) (ht : Tab W) :
    Calls Tryz.prog 9 #[.agg (evC x).toArray] W fun e w' => e = .returned (.tuple #[.string (txOf x), .int .i64 (if Evt.valid x then 0 else 1)]) ∧ Below W.heap.size W w' := by
  cases hv : Evt.valid x with
  | true =>
    refine (evText_yes x hx hv W hT ht).mono ?_
    rintro e w' ⟨rfl, hb⟩
    exact ⟨by unfold txOf; rw [if_pos hv]; rfl, hb⟩
  | false =>
    refine (evText_bad x hx hv W).mono ?_
    rintro e w' ⟨rfl, hb⟩
    exact ⟨by unfold txOf; rw [if_neg (by rw [hv]; simp)]; rfl, hb⟩
set_option maxRecDepth 100000 in
theorem texts_any (a : Ev) (ha : Sz a) (b : Ev) (hb : Sz b) (s : ByteArray) (_ : s.size ≤ 140737488351232) (W : World) (hT : WTab W) (ht : Tab W) (hE : Errs W) :
    Calls Tryz.prog 3 #[.agg (evC a).toArray, .agg (evC b).toArray, .string s] W fun e w' => e = .returned (.bool true) ∧ Below W.heap.size W w' := by
  obtain ⟨o, ho⟩ : ∃ o, o = parseE s.data.toList := ⟨_, rfl⟩
  have hsome : ∀ x, o = some x → Evt.valid x = true ∧ textE x = s.data.toList := fun x hx => parse_sound (by rw [← ho]; exact hx)
  have hpy : o.isSome = true → ∃ x, o = some x := fun h => Option.isSome_iff_exists.1 h
  have hsz : Sz (evOf o) := by
    cases o with
    | none => exact sz_zero
    | some x => exact sz_valid (hsome x rfl).1
  refine texts_walk a b (evOf o) ha hb hsz s (txOf a) (txOf b) (shortE a) (shortE b) (Evt.valid a) (Evt.valid b) o.isSome W
    (fun w hw => head09_any w (hT.below hw) (ht.below hw) (hE.below hw)) (fun w => short_any a w) (fun w => short_any b w) (fun w => evValid_any a ha w)
    (fun w hw => text_any a ha w (hT.below hw) (ht.below hw)) (fun w hw => text_any b hb w (hT.below hw) (ht.below hw)) ?_ ?_ ?_ ?_ ?_ ?_ ?_
  · intro hv
    unfold txOf
    rw [if_neg (by rw [hv]; simp)]
  · intro hv w hw
    have hl := textE_len hv
    have e : (txOf a).data.toList = textE a := by unfold txOf; rw [if_pos hv]
    have e2 : (txOf a).size = (txOf a).data.toList.length := rfl
    refine (parse_any (txOf a) (by rw [e2, e]; omega) w (hT.below hw) (ht.below hw) (hE.below hw)).mono ?_
    rintro r w' ⟨rfl, hb⟩
    rw [e, parse_text hv]
    exact ⟨rfl, hb⟩
  · intro hva hvb
    have ea : (txOf a).data.toList = textE a := by unfold txOf; rw [if_pos hva]
    have eb : (txOf b).data.toList = textE b := by unfold txOf; rw [if_pos hvb]
    rw [ByteArray.toList_eq, ByteArray.toList_eq, ea, eb, Bool.eq_iff_iff, beq_iff_eq, evEq_iff]
    exact ⟨fun h => text_inj hva hvb h, fun h => by rw [h]⟩
  · intro hl w hw
    refine (parse_any s (by omega) w (hT.below hw) (ht.below hw) (hE.below hw)).mono ?_
    rintro r w' ⟨rfl, hb⟩
    rw [← ho]
    exact ⟨rfl, hb⟩
  · intro h
    cases o with
    | none => rfl
    | some x => cases h
  · intro h w hw
    obtain ⟨x, rfl⟩ := hpy h
    obtain ⟨hv, ht2⟩ := hsome x rfl
    have e : (⟨(textE x).toArray⟩ : ByteArray) = s := by rw [ht2]
    refine (evText_yes x (sz_valid hv) hv w (hT.below hw) (ht.below hw)).mono ?_
    rintro r w' ⟨rfl, hb⟩
    rw [e]
    exact ⟨rfl, hb⟩
  · intro h w
    obtain ⟨x, rfl⟩ := hpy h
    obtain ⟨hv, -⟩ := hsome x rfl
    refine (evValid_any x (sz_valid hv) w).mono ?_
    rintro r w' ⟨rfl, hb⟩
    exact ⟨by rw [hv], hb⟩
end Go.Proofs.YtbnofoncapaabaaGreatDoor
