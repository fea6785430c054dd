/- ReportJoins. -/
import Derived.Test.YtknphmkblcbabaaGreatDoorRepHeadW
import Derived.Test.YtknphmkblcbabaaGreatDoorRepFew
import Derived.Test.YtknphmkblcbabaaGreatDoorOwnL
namespace Go.Proofs.YtknphmkblcbabaaGreatDoor
open Go.RowKit Go.Sort
open Evt

theorem tyRp : ElTy 22 31 2 32 ElRp :=
  elTy_mk Tryz.underlying22 (show (Tryz.prog.info? 31).map (fun i => (i.zero, i.size, i.bytes)) = some (some (.agg #[.slice none 0 0, .bool false]), 2, 32) by kernel_rfl) rfl (by decide) stRp
    (fun _ _ _ h => by obtain ⟨oo, oc, rfl, _⟩ := h; rfl) (fun _ _ _ h u hu => by
      obtain ⟨oo, oc, rfl, _⟩ := h
      simp only [List.mem_cons, List.not_mem_nil, or_false] at hu
      rcases hu with rfl | rfl <;> rfl)
theorem tyZ : ElTy 23 3 1 8 ElZ :=
  elTy_mk Tryz.underlying23 (show (Tryz.prog.info? 3).map (fun i => (i.zero, i.size, i.bytes)) = some (some (.int .i64 0), 1, 8) by kernel_rfl) rfl (by decide) stZ
    (fun _ _ _ h => by have h : _ = _ := h; rw [h]; rfl) (fun _ _ _ h u hu => by
      have h : _ = _ := h
      rw [h] at hu
      rw [List.mem_singleton.1 hu]; rfl)
theorem tyEv : ElTy 26 51 14 160 ElEv :=
  elTy_mk Tryz.underlying26 info_evE rfl (by decide) stEv
    (fun _ _ _ h => by obtain ⟨rfl, _⟩ := h; rfl) (fun _ _ a h u hu => by
      obtain ⟨rfl, _⟩ := h
      have := List.all_eq_true.1 (by simpa using evC_one a) u hu
      exact this)
theorem OwnE.other {α2 : Type} {te2 : TypeId} {size2 B B2 : Nat} {El2 : World → List Value → α2 → Prop} {W2 w w' : World} {v v2 : Value} {es : List Ev} {l2 : List α2} (h : OwnE B w v es) (h2 : OwnL te2 size2 El2 B2 W2 w v2 l2) (hne : 51 ≠ te2) (hg : w.grownBy w' v2.ownBlock) : OwnE B w' v es := by
  obtain ⟨dss, h5, h6⟩ := h2.ex
  exact ⟨h.row.kept hg (owns_apart h.row h6 hne), h.sz⟩
namespace Evt
theorem pkAll_zip (l : List Rp) (cs : List Int) (h : l.length = cs.length) : pkAll l cs l.length = (l.zip cs).all fun p => pkOk p.1 p.2 := by
  unfold pkAll
  rw [List.take_of_length_le (by rw [List.length_zip]; omega)]
theorem pkd_zip (l : List Rp) (cs : List Int) (h : l.length = cs.length) : pkd l cs l.length = (l.zip cs).flatMap fun p => pk p.1 p.2 := by
  unfold pkd
  rw [List.take_of_length_le (by rw [List.length_zip]; omega)]
theorem pickB_zip (l : List Rp) (cs : List Int) (h : l.length = cs.length) : pickB l cs = (l.zip cs).all fun p => pkOk p.1 p.2 := by
  unfold pickB
  rw [decide_eq_true h, pkAll_zip l cs h]
  rfl
theorem pickB_app {l m : List Rp} {cs ds : List Int} (h1 : l.length = cs.length) (h2 : m.length = ds.length) : pickB (l ++ m) (cs ++ ds) = (pickB l cs && pickB m ds) := by
  rw [pickB_zip l cs h1, pickB_zip m ds h2, pickB_zip _ _ (by rw [List.length_append, List.length_append, h1, h2]), List.zip_append h1, List.all_append]
theorem pickF_app {l m : List Rp} {cs ds : List Int} (h1 : l.length = cs.length) (h2 : m.length = ds.length) (hl : pickB l cs = true) (hm : pickB m ds = true) : pickF (l ++ m) (cs ++ ds) = pickF l cs ++ pickF m ds := by
  unfold pickF
  rw [pickB_app h1 h2, hl, hm, Bool.and_self, if_pos rfl, if_pos rfl, if_pos rfl, pkd_zip l cs h1, pkd_zip m ds h2, pkd_zip _ _ (by rw [List.length_append, List.length_append, h1, h2]), List.zip_append h1, List.flatMap_append]
theorem pickF_len (l : List Rp) (cs : List Int) : (pickF l cs).length ≤ l.length := by
  unfold pickF
  split
  · exact pkd_len l cs l.length
  · simp
theorem pickE_eq (l : List Rp) (cs : List Int) : pickE l cs = if pickB l cs then 0 else 1 := rfl
theorem pickF_no {l : List Rp} {cs : List Int} (h : pickB l cs = false) : pickF l cs = [] := by unfold pickF; rw [h]; rfl
end Evt

set_option maxRecDepth 100000 in
set_option maxHeartbeats 16000000 in
theorem ljoins_any (ao : Option Addr) (l : List Rp) (cap : Nat) (hlc : l.length ≤ cap) (hcp : cap ≤ 9223372036854775807) (bo : Option Addr) (m : List Rp) (cap2 : Nat) (hmc : m.length ≤ cap2) (hcp2 : cap2 ≤ 9223372036854775807)
    (co : Option Addr) (cs : List Int) (cc : Nat) (hcc : cs.length ≤ cc) (hcq : cc ≤ 9223372036854775807) (eo : Option Addr) (ds : List Int) (cd : Nat) (hdc : ds.length ≤ cd) (hdq : cd ≤ 9223372036854775807) (W : World) (hi : IsL 2 ElRp W ao l) (hj : IsL 2 ElRp W bo m) (hv : IsL 1 ElZ W co cs) (hu : IsL 1 ElZ W eo ds) (hT : WTab W) (ht : Tab W) :
    Calls Tryz.prog 7 #[.slice ao l.length cap, .slice bo m.length cap2, .slice co cs.length cc, .slice eo ds.length cd] W fun e w' => e = .returned (.bool true) ∧ Below W.heap.size W w' := by
  have HHd := Lib.hid (head13_any W hT ht)
  have HFl := Lib.hid (fun w h => fewLaw_any ao l cap (by omega) co cs.length cc (by omega) w h)
  have HFm := Lib.hid (fun w h => fewLaw_any bo m cap2 (by omega) eo ds.length cd (by omega) w h)
  have HI := Lib.hid hi
  have HJ := Lib.hid hj
  have HV := Lib.hid hv
  have HU := Lib.hid hu
  clear hi hj hv hu hT ht
  obtain ⟨n, Hn⟩ : ∃ n, Hid (n = l.length) := ⟨_, Lib.hid rfl⟩
  obtain ⟨k, Hk⟩ : ∃ n, Hid (n = m.length) := ⟨_, Lib.hid rfl⟩
  obtain ⟨n', Hn'⟩ : ∃ n, Hid (n = cs.length) := ⟨_, Lib.hid rfl⟩
  obtain ⟨k', Hk'⟩ : ∃ n, Hid (n = ds.length) := ⟨_, Lib.hid rfl⟩
  rw [← Hn.out, ← Hn'.out] at HFl
  rw [← Hk.out, ← Hk'.out] at HFm
  rw [← Hn.out, ← Hk.out, ← Hn'.out, ← Hk'.out]
  rw [← Hn.out] at hlc
  rw [← Hk.out] at hmc
  rw [← Hn'.out] at hcc
  rw [← Hk'.out] at hdc
  go_enter Tryz.func7, Tryz.ntmps7
  go_wp2_with fail
  refine HHd.out.mono ?_
  rintro e w1 ⟨rfl, hb⟩
  have HB1 := Lib.hid hb
  clear hb
  go_wp2_with fail
  refine (HFl.out _ (HI.out.below stRp HB1.out)).mono ?_
  rintro e w2 ⟨b, rfl, hq, hb⟩
  have HB2 := Lib.hid (below_step HB1.out hb)
  clear hb
  cases b with
  | false =>
    go_wp2_with fail
    go_ret
    exact ⟨rfl, HB2.out⟩
  | true =>
  obtain ⟨hn12, hn30⟩ := hq rfl
  clear hq
  go_wp2_with fail
  refine (HFm.out _ (HJ.out.below stRp HB2.out)).mono ?_
  rintro e w3 ⟨b, rfl, hq, hb⟩
  have HB3 := Lib.hid (below_step HB2.out hb)
  clear hb
  cases b with
  | false =>
    go_wp2_with fail
    go_ret
    exact ⟨rfl, HB3.out⟩
  | true =>
  obtain ⟨hk12, hk30⟩ := hq rfl
  clear hq
  by_cases hnn : n = n'
  case neg =>
    have hd : ((n : Int) == n') = false := by simp; omega
    have hd' : ((n : Int) != n') = true := by simp; omega
    go_wp2_with fail
    go_ret
    exact ⟨rfl, HB3.out⟩
  subst hnn
  have hd : ((n : Int) == n) = true := by simp
  have hd' : ((n : Int) != n) = false := by simp
  by_cases hkk : k = k'
  case neg =>
    have he : ((k : Int) == k') = false := by simp; omega
    have he' : ((k : Int) != k') = true := by simp; omega
    go_wp2_with fail
    go_ret
    exact ⟨rfl, HB3.out⟩
  subst hkk
  have he : ((k : Int) == k) = true := by simp
  have he' : ((k : Int) != k) = false := by simp
  have HL1 : Hid (l.length = cs.length) := Lib.hid (by rw [← Hn.out, ← Hn'.out])
  have HL2 : Hid (m.length = ds.length) := Lib.hid (by rw [← Hk.out, ← Hk'.out])
  have HP1 := Lib.hid (repPicked_any l ao cap (by rw [← Hn.out]; omega) cs co cc (by rw [← Hn'.out]; omega) w3 (HI.out.below stRp HB3.out) (HV.out.below stZ HB3.out))
  rw [← Hn.out, ← Hn'.out] at HP1
  obtain ⟨b1, Hb1⟩ : ∃ b, Hid (b = pickB l cs) := ⟨_, Lib.hid rfl⟩
  obtain ⟨b2, Hb2⟩ : ∃ b, Hid (b = pickB m ds) := ⟨_, Lib.hid rfl⟩
  obtain ⟨F1, HF1⟩ : ∃ b, Hid (b = pickF l cs) := ⟨_, Lib.hid rfl⟩
  obtain ⟨F2, HF2⟩ : ∃ b, Hid (b = pickF m ds) := ⟨_, Lib.hid rfl⟩
  obtain ⟨E1, HE1⟩ : ∃ x, Hid (x = pickE l cs) := ⟨_, Lib.hid rfl⟩
  obtain ⟨E2, HE2⟩ : ∃ x, Hid (x = pickE m ds) := ⟨_, Lib.hid rfl⟩
  rw [← HE1.out, ← HF1.out] at HP1
  go_wp2_with fail
  refine HP1.out.mono ?_
  rintro e w4 ⟨v1, rfl, ho1, hb4⟩
  have HO1 := Lib.hid ho1
  have HB4 := Lib.hid (below_step HB3.out hb4)
  clear ho1 hb4
  have HP2 := Lib.hid (repPicked_any m bo cap2 (by rw [← Hk.out]; omega) ds eo cd (by rw [← Hk'.out]; omega) w4 (HJ.out.below stRp HB4.out) (HU.out.below stZ HB4.out))
  rw [← Hk.out, ← Hk'.out, ← HE2.out, ← HF2.out] at HP2
  go_wp2_with fail
  refine HP2.out.mono ?_
  rintro e w5 ⟨v2, rfl, ho2, hb5⟩
  have HO2 := Lib.hid ho2
  have HO15 := Lib.hid (HO1.out.below hb5)
  have HB5 := Lib.hid (below_step HB4.out hb5)
  clear ho2 hb5
  have HE1' : Hid (E1 = if b1 then 0 else 1) := Lib.hid (by rw [HE1.out, pickE_eq, Hb1.out])
  have HE2' : Hid (E2 = if b2 then 0 else 1) := Lib.hid (by rw [HE2.out, pickE_eq, Hb2.out])
  clear HE1 HE2
  have HL12 := Lib.hid (And.intro hn12 hk12)
  clear hd hd' he he'
  go_wp2_with (at_builtin; refine Hid.out ?_)
  refine Lib.hid ?_
  obtain ⟨g6, Hg6⟩ : ∃ x, Hid (x = w5.heap.size) := ⟨_, Lib.hid rfl⟩
  obtain ⟨w6, Hw6⟩ : ∃ x, Hid (x = w5.alloc (.cells #[] 31)) := ⟨_, Lib.hid rfl⟩
  have HW6 : Hid (Whole w6 g6 31 #[]) := Lib.hid (by rw [Hw6.out, Hg6.out]; exact Whole.new _ _ _)
  have HB6 : Hid (Below W.heap.size W w6) := Lib.hid (by rw [Hw6.out]; exact below_alloc HB5.out _)
  have HBs6 : Hid (Below w5.heap.size w5 w6) := Lib.hid (by rw [Hw6.out]; exact (Below.refl _ _).alloc (Nat.le_refl _) _)
  rw [← Hw6.out, ← Hg6.out]
  refine wpList_copyL (by rfl) tyRp _ _ rfl (W0 := W) (B := W.heap.size) (l := l) g6 cap (by rfl) n (by rfl) Hn.out HB6.out HW6.out (by rw [Hg6.out]; exact HB5.out.size) (by unfold maxLen; have := HL12.out; have := Hn.out; omega) (by have := HL12.out; have := Hn.out; omega) HI.out ?_
  intro u7 w7 ho7 hb7
  have HO7 := Lib.hid ho7
  have HB7 := Lib.hid (below_step HB6.out hb7)
  have HBs7 := Lib.hid (below_step HBs6.out hb7)
  clear ho7 hb7
  go_wp2_with (at_builtin; refine Hid.out ?_)
  refine Lib.hid ?_
  refine wpList_moreL (by rfl) tyRp _ _ rfl (W0 := W) (B := W.heap.size) (l := l) (m := m) cap2 (by rfl) k (by rfl) Hk.out HB7.out HB7.out.size HO7.out (by unfold maxLen; have := HL12.out; have := Hn.out; have := Hk.out; omega) (by have := HL12.out; have := Hn.out; have := Hk.out; omega) HJ.out ?_
  intro u8 w8 ho8 hg8
  have HO8 := Lib.hid ho8
  have HB8 : Hid (Below W.heap.size W w8) := Lib.hid (HB7.out.trans (HO7.out.grownLow HB7.out.size hg8))
  have HK8 : Hid (OwnE w3.heap.size w8 v1 F1 ∧ OwnE w4.heap.size w8 v2 F2) := Lib.hid ⟨((HO15.out.below HBs7.out).other HO7.out (by decide) hg8), ((HO2.out.below HBs7.out).other HO7.out (by decide) hg8)⟩
  clear ho8 hg8
  go_wp2_with (at_builtin; refine Hid.out ?_)
  refine Lib.hid ?_
  obtain ⟨g9, Hg9⟩ : ∃ x, Hid (x = w8.heap.size) := ⟨_, Lib.hid rfl⟩
  obtain ⟨w9, Hw9⟩ : ∃ x, Hid (x = w8.alloc (.cells #[] 3)) := ⟨_, Lib.hid rfl⟩
  have HW9 : Hid (Whole w9 g9 3 #[]) := Lib.hid (by rw [Hw9.out, Hg9.out]; exact Whole.new _ _ _)
  have HB9 : Hid (Below W.heap.size W w9) := Lib.hid (by rw [Hw9.out]; exact below_alloc HB8.out _)
  have HBs9 : Hid (Below w8.heap.size w8 w9) := Lib.hid (by rw [Hw9.out]; exact (Below.refl _ _).alloc (Nat.le_refl _) _)
  rw [← Hw9.out, ← Hg9.out]
  refine wpList_copyL (by rfl) tyZ _ _ rfl (W0 := W) (B := W.heap.size) (l := cs) g9 cc (by rfl) n (by rfl) Hn'.out HB9.out HW9.out (by rw [Hg9.out]; exact HB8.out.size) (by unfold maxLen; have := HL12.out; have := Hn'.out; omega) (by have := HL12.out; have := Hn'.out; omega) HV.out ?_
  intro ua wa hoa hba
  have HOa := Lib.hid hoa
  have HBa := Lib.hid (below_step HB9.out hba)
  have HBsa := Lib.hid (below_step HBs9.out hba)
  clear hoa hba
  go_wp2_with (at_builtin; refine Hid.out ?_)
  refine Lib.hid ?_
  refine wpList_moreL (by rfl) tyZ _ _ rfl (W0 := W) (B := W.heap.size) (l := cs) (m := ds) cd (by rfl) k (by rfl) Hk'.out HBa.out HBa.out.size HOa.out (by unfold maxLen; have := HL12.out; have := Hn'.out; have := Hk'.out; omega) (by have := HL12.out; have := Hn'.out; have := Hk'.out; omega) HU.out ?_
  intro ub wb hob hgb
  have HOb := Lib.hid hob
  have HBb : Hid (Below W.heap.size W wb) := Lib.hid (HBa.out.trans (HOa.out.grownLow HBa.out.size hgb))
  have HKb : Hid (OwnE w3.heap.size wb v1 F1 ∧ OwnE w4.heap.size wb v2 F2) := Lib.hid ⟨((HK8.out.1.below HBsa.out).other HOa.out (by decide) hgb), ((HK8.out.2.below HBsa.out).other HOa.out (by decide) hgb)⟩
  have HO8b := Lib.hid ((HO8.out.below HBsa.out).other HOa.out (by decide) hgb)
  clear hob hgb
  obtain ⟨po, pc, rfl, hpl⟩ := HO8b.out.isL stRp HBb.out
  obtain ⟨qo, qc, rfl, hql⟩ := HOb.out.isL stZ HBb.out
  have HP3 := Lib.hid (repPicked_any (l ++ m) po pc (by have := HL12.out; have := Hn.out; have := Hk.out; rw [List.length_append]; omega) (cs ++ ds) qo qc (by have := HL12.out; have := Hn'.out; have := Hk'.out; rw [List.length_append]; omega) wb hpl hql)
  obtain ⟨E3, HE3⟩ : ∃ x, Hid (x = pickE (l ++ m) (cs ++ ds)) := ⟨_, Lib.hid rfl⟩
  obtain ⟨F3, HF3⟩ : ∃ x, Hid (x = pickF (l ++ m) (cs ++ ds)) := ⟨_, Lib.hid rfl⟩
  rw [← HE3.out, ← HF3.out] at HP3
  have HB3 : Hid (pickB (l ++ m) (cs ++ ds) = (b1 && b2)) := Lib.hid (by rw [Hb1.out, Hb2.out]; exact pickB_app HL1.out HL2.out)
  have HE3' : Hid (E3 = if b1 && b2 then 0 else 1) := Lib.hid (by rw [HE3.out, pickE_eq, HB3.out])
  have HF3' : Hid ((b1 && b2) = false → F3 = []) := Lib.hid (fun h => by rw [HF3.out]; exact pickF_no (by rw [HB3.out, h]))
  have HF3y : Hid (b1 = true → b2 = true → F3 = F1 ++ F2) := Lib.hid (fun h1 h2 => by rw [HF3.out, HF1.out, HF2.out]; exact pickF_app HL1.out HL2.out (by rw [← Hb1.out]; exact h1) (by rw [← Hb2.out]; exact h2))
  have HFl3 : Hid (F1.length ≤ 12 ∧ F2.length ≤ 12) := Lib.hid (by
    have h1 := pickF_len l cs
    have h2 := pickF_len m ds
    rw [← HF1.out, ← Hn.out] at h1
    rw [← HF2.out, ← Hk.out] at h2
    have := HL12.out
    omega)
  obtain ⟨ln, Hln⟩ : ∃ x, Hid (x = (l ++ m).length) := ⟨_, Lib.hid rfl⟩
  obtain ⟨lz, Hlz⟩ : ∃ x, Hid (x = (cs ++ ds).length) := ⟨_, Lib.hid rfl⟩
  rw [← Hln.out, ← Hlz.out] at HP3 ⊢
  clear hpl hql HE3
  go_wp2_with fail
  refine HP3.out.mono ?_
  rintro e wc ⟨v3, rfl, ho3, hbc⟩
  have HO3 := Lib.hid ho3
  have HBc := Lib.hid (below_step HBb.out hbc)
  have HKc : Hid (OwnE w3.heap.size wc v1 F1 ∧ OwnE w4.heap.size wc v2 F2) := Lib.hid ⟨HKb.out.1.below hbc, HKb.out.2.below hbc⟩
  clear ho3 hbc
  by_cases hbb : (b1 && b2) = true
  case neg =>
    have hbf : (b1 && b2) = false := by simpa using hbb
    obtain rfl : E3 = 1 := by rw [HE3'.out, hbf]; rfl
    obtain rfl : F3 = [] := HF3'.out hbf
    obtain ⟨so, sc, rfl⟩ := owns_shapeM HO3.out.row
    cases b1 with
    | false =>
      obtain rfl : E1 = 1 := HE1'.out
      go_wp2_with fail
      go_ret
      exact ⟨rfl, HBc.out⟩
    | true =>
      obtain rfl : E1 = 0 := HE1'.out
      cases b2 with
      | true => exact absurd rfl hbb
      | false =>
        obtain rfl : E2 = 1 := HE2'.out
        go_wp2_with fail
        go_ret
        exact ⟨rfl, HBc.out⟩
  rw [Bool.and_eq_true] at hbb
  obtain ⟨rfl, rfl⟩ := hbb
  obtain rfl : E3 = 0 := HE3'.out
  obtain rfl : E1 = 0 := HE1'.out
  obtain rfl : E2 = 0 := HE2'.out
  have hF := HF3y.out rfl rfl
  subst hF
  obtain ⟨ao1, c1, rfl, hl1⟩ := HKc.out.1.isL
  obtain ⟨ao2, c2, rfl, hl2⟩ := HKc.out.2.isL
  obtain ⟨ao3, c3, rfl, hl3⟩ := HO3.out.isL
  have HQ1 := Lib.hid hl1
  have HQ2 := Lib.hid hl2
  have HQ3 := Lib.hid hl3
  clear hl1 hl2 hl3
  obtain ⟨f1, Hf1⟩ : ∃ x, Hid (x = F1.length) := ⟨_, Lib.hid rfl⟩
  obtain ⟨f2, Hf2⟩ : ∃ x, Hid (x = F2.length) := ⟨_, Lib.hid rfl⟩
  obtain ⟨f3, Hf3⟩ : ∃ x, Hid (x = (F1 ++ F2).length) := ⟨_, Lib.hid rfl⟩
  rw [← Hf1.out, ← Hf2.out, ← Hf3.out]
  go_wp2_with (at_builtin; refine Hid.out ?_)
  refine Lib.hid ?_
  obtain ⟨gd, Hgd⟩ : ∃ x, Hid (x = wc.heap.size) := ⟨_, Lib.hid rfl⟩
  obtain ⟨wd, Hwd⟩ : ∃ x, Hid (x = wc.alloc (.cells #[] 51)) := ⟨_, Lib.hid rfl⟩
  have HWd : Hid (Whole wd gd 51 #[]) := Lib.hid (by rw [Hwd.out, Hgd.out]; exact Whole.new _ _ _)
  have HBd : Hid (Below wc.heap.size wc wd) := Lib.hid (by rw [Hwd.out]; exact (Below.refl _ _).alloc (Nat.le_refl _) _)
  rw [← Hwd.out, ← Hgd.out]
  refine wpList_copyL (by rfl) tyEv _ _ rfl (W0 := wc) (B := wc.heap.size) (l := F1) gd c1 (by rfl) f1 (by rfl) Hf1.out HBd.out HWd.out (by rw [Hgd.out]; exact Nat.le_refl _) (by unfold maxLen; have := HFl3.out; omega) (by have := HFl3.out; omega) HQ1.out ?_
  intro ue we hoe hbe
  have HOe := Lib.hid hoe
  have HBe := Lib.hid (below_step HBd.out hbe)
  clear hoe hbe
  go_wp2_with (at_builtin; refine Hid.out ?_)
  refine Lib.hid ?_
  refine wpList_moreL (by rfl) tyEv _ _ rfl (W0 := wc) (B := wc.heap.size) (l := F1) (m := F2) c2 (by rfl) f2 (by rfl) Hf2.out HBe.out HBe.out.size HOe.out (by unfold maxLen; have := HFl3.out; omega) (by have := HFl3.out; omega) HQ2.out ?_
  intro uf wf hof hgf
  have HBf : Hid (Below wc.heap.size wc wf) := Lib.hid (HBe.out.trans (HOe.out.grownLow HBe.out.size hgf))
  have HBWf := Lib.hid (below_step HBc.out HBf.out)
  obtain ⟨ro, rc, rfl, hrl⟩ := hof.isL stEv HBf.out
  have HSm := Lib.hid (same09_any (F1 ++ F2) (F1 ++ F2) (by rw [List.length_append]; have := HFl3.out; omega) (by rw [List.length_append]; have := HFl3.out; omega) ao3 ro c3 rc wf (HQ3.out.below stEv HBf.out) hrl)
  rw [evsB_iff.2 rfl] at HSm
  rw [← Hf3.out] at HSm ⊢
  clear hof hgf hrl
  go_wp2_with fail
  refine HSm.out.mono ?_
  rintro e wz ⟨rfl, hbz⟩
  have HBz := Lib.hid (below_step HBWf.out hbz)
  clear hbz
  go_wp2_with fail
  go_ret
  exact ⟨rfl, HBz.out⟩
end Go.Proofs.YtknphmkblcbabaaGreatDoor
