/- event.Text at a note, and at a run. -/
import Derived.Test.YtbnofoncapaabaaGreatDoorEvtText
import Derived.Test.YtbnofoncapaabaaGreatDoorEvtTextM
import Derived.Test.YtbnofoncapaabaaGreatDoorAppOwn
import Derived.Test.YtbnofoncapaabaaGreatDoorLexQuote
namespace Go.Proofs.YtbnofoncapaabaaGreatDoor
open Go.RowKit Go.Sort
open Evt

def etnV (N : Nat) (x6 x7 : ByteArray) (lv : Value) : Nat → Value → Prop
  | 0, v => v = lv
  | 1, v => v = .pointer (some ⟨N, 6, none⟩)
  | 2, v => v = .string x6
  | 3, v => v = .pointer (some ⟨N, 7, none⟩)
  | 4, v => v = .string x7
  | 5, v => v = .string ⟨(Lex.quote x7.data.toList).toArray⟩
  | _, _ => True
set_option maxRecDepth 100000 in
set_option maxHeartbeats 8000000 in
theorem evText_note (x : Ev) (hx : Sz x) (hv : Evt.valid x = true) (h6 : x.op = 6) (W : World) (hT : WTab W) (ht : Tab W) :
    Calls Tryz.prog 9 #[.agg (evC x).toArray] W fun e w' => e = .returned (.tuple #[.string ⟨(textE x).toArray⟩, .int .i64 0]) ∧ Below W.heap.size W w' := by
  obtain ⟨i1, hi1, hy0, hy1, hy2⟩ := infoP info_strE
  obtain ⟨o1, o2, d1, d2, -, -⟩ := valid_op hv
  obtain ⟨-, -, hv200⟩ := ok6 hv h6
  have hl := textE_len hv
  obtain ⟨V, HV⟩ : ∃ w, Hid (w = W.alloc (.cells (evC x).toArray 27)) := ⟨_, Lib.hid rfl⟩
  obtain ⟨N, HN⟩ : ∃ N, Hid (N = W.heap.size) := ⟨_, Lib.hid rfl⟩
  have HB : Hid (Below W.heap.size W V) := Lib.hid (by rw [HV.out]; exact (Below.refl _ _).alloc (Nat.le_refl _) _)
  have HW : Hid (Whole V N 27 (evC x).toArray) := Lib.hid (by rw [HV.out, HN.out]; exact Whole.new _ _ _)
  have HC := Lib.hid (evValid_any x hx V)
  rw [hv] at HC
  have HSp := Lib.hid ev_size
  have HT := Lib.hid hT
  have HTb := Lib.hid ht
  obtain ⟨T, HTx⟩ : ∃ T, Hid (T = textE x) := ⟨_, Lib.hid rfl⟩
  have HTj : Hid (T = Lib.join ([wordOf x.op, digs x.day, bts x.part] ++
    (if x.op = 1 then [bts x.kind] else if x.op = 2 then [bts x.into, bts x.slot]
     else if x.op = 4 then [digs x.k0, digs x.k1, digs x.c0, digs x.c1, digs x.d0, digs x.d1]
     else if x.op = 6 then [bts x.key, Lex.quote x.value.data.toList] else [])) [32] ∧ T.length ≤ 140737488355328) := Lib.hid ⟨by rw [HTx.out]; rfl, by rw [HTx.out]; omega⟩
  rw [← HTx.out]
  clear hx hv hl hT ht HTx
  obtain ⟨x0, x1, x2, x3, x4, x5, x6, x7, x8, x9, xa, xb, xc, xd⟩ := x
  dsimp only at HTj h6 o1 o2 d1 d2 hv200
  subst h6
  unfold evC at HV HC HW ⊢
  go_enter Tryz.func9, Tryz.ntmps9
  go_wp2_with fail
  rw [← HV.out, ← HN.out]
  refine HC.out.mono ?_
  rintro e w1 ⟨rfl, hb⟩
  have HB1 := Lib.hid (below_step HB.out hb)
  have HW1 := Lib.hid (whole_belowM HW.out hb)
  clear hb
  have HWT1 : Hid (∀ w, Below w1.heap.size w1 w → WTab w ∧ Tab w) := Lib.hid fun w hw => ⟨HT.out.below (below_step HB1.out hw), HTb.out.below (below_step HB1.out hw)⟩
  have HWn : Hid (∀ w, Below w1.heap.size w1 w → Whole w N 27 _) := Lib.hid fun w hw => whole_belowM HW1.out hw
  have HO := Lib.hid (And.intro o1 o2)
  have HD := Lib.hid (And.intro d1 d2)
  clear o1 o2 d1 d2
  go_wp2_with fail
  apply wp_region_monoL 77 (etP N W.heap.size 6 x1 x2) etP_below (by kernel_rfl) (by kernel_rfl) rfl
  · intro i o ho w A' hlow hsee haway
    have s1 : A'.eval (.tmp 1) = .pointer (some ⟨N, 0, none⟩) := (haway 1 (by kernel_rfl)).trans rfl
    have hi : i < 11 := by have := (List.getElem?_eq_some_iff.1 ho).1; simpa using this
    have hi : i = 0 ∨ i = 1 ∨ i = 2 ∨ i = 3 ∨ i = 4 ∨ i = 5 ∨ i = 6 ∨ i = 7 ∨ i = 8 ∨ i = 9 ∨ i = 10 := by omega
    rcases hi with rfl | rfl | rfl | rfl | rfl | rfl | rfl | rfl | rfl | rfl | rfl
    all_goals
      simp only [List.getElem?_cons_succ, List.getElem?_cons_zero, Option.some.injEq] at ho
      subst ho
    · exact wp_of_runL (run_fieldEv0 _ _ _ _ _ _ _ 1 N s1) ⟨_, rfl, Below.refl _ _, rfl⟩
    · have q : A'.eval (.tmp 10) = .pointer (some ⟨N, 0, none⟩) := hsee 10 (by decide) 0 rfl
      exact wp_of_runL (run_loadSI _ _ _ _ _ _ _ _ (Or.inl rfl) 10 _ _ q ((HWn.out w hlow).cell 0)) ⟨_, rfl, Below.refl _ _, rfl⟩
    · have q : A'.eval (.tmp 11) = .int .i64 6 := hsee 11 (by decide) 1 rfl
      exact wp_of_runL (run_indexW _ _ _ _ _ _ _ 11 6 HO.out.1 HO.out.2 q) ⟨_, rfl, Below.refl _ _, rfl⟩
    · have q : A'.eval (.tmp 12) = .pointer (some ⟨0, (6 : Int).toNat, none⟩) := hsee 12 (by decide) 2 rfl
      exact wp_of_runL (run_loadSI _ _ _ _ _ _ _ _ (Or.inr rfl) 12 _ _ q ((HWT1.out w hlow).1.cell (wordOf_at HO.out.1 HO.out.2))) ⟨_, rfl, Below.refl _ _, rfl⟩
    · exact wp_of_runL (run_fieldEv1 _ _ _ _ _ _ _ 1 N s1) ⟨_, rfl, Below.refl _ _, rfl⟩
    · have q : A'.eval (.tmp 14) = .pointer (some ⟨N, 1, none⟩) := hsee 14 (by decide) 4 rfl
      exact wp_of_runL (run_loadSI _ _ _ _ _ _ _ _ (Or.inl rfl) 14 _ _ q ((HWn.out w hlow).cell 1)) ⟨_, rfl, Below.refl _ _, rfl⟩
    · have q : A'.eval (.tmp 15) = .int .i64 x1 := hsee 15 (by decide) 5 rfl
      have hn : x1 = ((x1.toNat : Nat) : Int) := by have := HD.out.1; omega
      rw [hn] at q
      refine wp_of_callL _ _ _ _ _ _ _ 16 _ [.tmp 15] [.int .i64 (x1.toNat : Int)] (by simp [q]) rfl ?_
      refine (itoa_any x1.toNat (by have := HD.out.2; omega) w (HWT1.out w hlow).2).mono ?_
      rintro e w2 ⟨rfl, hb2⟩
      exact ⟨_, rfl, _, rfl, hb2, rfl⟩
    · exact wp_of_runL (run_fieldEv2 _ _ _ _ _ _ _ 1 N s1) ⟨_, rfl, Below.refl _ _, rfl⟩
    · have q : A'.eval (.tmp 17) = .pointer (some ⟨N, 2, none⟩) := hsee 17 (by decide) 7 rfl
      exact wp_of_runL (run_loadSI _ _ _ _ _ _ _ _ (Or.inr rfl) 17 _ _ q ((HWn.out w hlow).cell 2)) ⟨_, rfl, Below.refl _ _, rfl⟩
    · have q3 : A'.eval (.tmp 13) = .string ⟨(wordOf 6).toArray⟩ := hsee 13 (by decide) 3 rfl
      have q6 : A'.eval (.tmp 16) = .string ⟨(digs x1).toArray⟩ := hsee 16 (by decide) 6 rfl
      have q8 : A'.eval (.tmp 18) = .string x2 := hsee 18 (by decide) 8 rfl
      refine wp_of_runL (run_threeS _ _ _ _ _ _ _ 13 16 18 _ _ _ q3 q6 q8) ⟨_, rfl, (Below.refl _ _).alloc (Nat.le_refl _) _, ?_⟩
      refine ⟨rfl, Or.inr ⟨w.heap.size, 3, _, rfl, (below_step HB1.out hlow).size, Whole.new _ _ _, Nat.le_refl _, by unfold maxLen; omega, rfl, ?_⟩⟩
      simp [encStr, bts]
    · obtain ⟨v, hv⟩ : ∃ v, A'.eval (.tmp 19) = v := ⟨_, rfl⟩
      have q : OwnS W.heap.size w (A'.eval (.tmp 19)) [wordOf 6, digs x1, bts x2] := hsee 19 (by decide) 9 rfl
      exact wp_of_runL (run_assignL _ _ _ _ _ _ _ 19 _ rfl) ⟨_, rfl, Below.refl _ _, q⟩
  intro e w5 hlow hall
  obtain ⟨v0, e0, -⟩ := hall 0 (by decide)
  obtain ⟨v1, e1, -⟩ := hall 1 (by decide)
  obtain ⟨v2, e2, -⟩ := hall 2 (by decide)
  obtain ⟨v3, e3, -⟩ := hall 3 (by decide)
  obtain ⟨v4, e4, -⟩ := hall 4 (by decide)
  obtain ⟨v5, e5, -⟩ := hall 5 (by decide)
  obtain ⟨v6, e6, -⟩ := hall 6 (by decide)
  obtain ⟨v7, e7, -⟩ := hall 7 (by decide)
  obtain ⟨v8, e8, -⟩ := hall 8 (by decide)
  obtain ⟨v9, e9, -⟩ := hall 9 (by decide)
  obtain ⟨va, ea, ha⟩ := hall 10 (by decide)
  have HB5 := Lib.hid (below_step HB1.out hlow)
  have HO5 : Hid (OwnS W.heap.size w5 va [wordOf 6, digs x1, bts x2]) := Lib.hid ha
  have HW5 := Lib.hid (HWn.out w5 hlow)
  have c0 : w5.cell? ⟨N, 0, none⟩ = some (.int .i64 6) := HW5.out.cell 0
  simp only [List.length_cons, List.length_nil, Nat.reduceAdd, fillTo, e0, e1, e2, e3, e4, e5, e6, e7, e8, e9, ea, dstOf]
  clear e0 e1 e2 e3 e4 e5 e6 e7 e8 e9 ea hlow hall ha
  go_simp
  obtain ⟨B, HBb⟩ : ∃ B, Hid (B = W.heap.size) := ⟨_, Lib.hid rfl⟩
  obtain ⟨lv, Hlv⟩ : ∃ v, Hid (v = va) := ⟨_, Lib.hid rfl⟩
  obtain ⟨ss, Hss⟩ : ∃ s, Hid (s = [wordOf 6, digs x1, bts x2]) := ⟨_, Lib.hid rfl⟩
  have HOq : Hid (OwnS B w5 lv ss) := Lib.hid (by rw [HBb.out, Hlv.out, Hss.out]; exact HO5.out)
  have HBq : Hid (Below B W w5 ∧ B ≤ w5.heap.size) := Lib.hid (by rw [HBb.out]; exact ⟨HB5.out, HB5.out.size⟩)
  have HGq := HW5
  have HNn : Hid (x7.size ≤ 100000000) := Lib.hid (by omega)
  have HLs : Hid (ss.length + [bts x6, Lex.quote x7.data.toList].length ≤ 1000000) := Lib.hid (by rw [Hss.out]; simp)
  have HTn : Hid (T = Lib.join (ss ++ [bts x6, Lex.quote x7.data.toList]) [32]) := Lib.hid (by rw [HTj.out.1, Hss.out]; simp)
  rw [← Hlv.out]
  go_wp2_with fail
  clear c0
  apply wp_region_entE 77 (apK 7 6 8) (apP B w5 (fun _ => True) lv ss [bts x6, Lex.quote x7.data.toList] 7 6 8) (etnV N x6 x7 lv) apP_cg (by kernel_rfl) (by kernel_rfl) rfl (apP_zero (fun _ _ _ _ => trivial) trivial HBq.out.2 HOq.out)
  · intro i o ho e w A' hT hei hwn hsee haway
    have q1 : A'.eval (.tmp 1) = .pointer (some ⟨N, 0, none⟩) := (haway 1 (by kernel_rfl)).trans rfl
    have hi : i < 9 := by have := (List.getElem?_eq_some_iff.1 ho).1; simpa using this
    have hi : i = 0 ∨ i = 1 ∨ i = 2 ∨ i = 3 ∨ i = 4 ∨ i = 5 ∨ i = 6 ∨ i = 7 ∨ i = 8 := by omega
    rcases hi with rfl | rfl | rfl | rfl | rfl | rfl | rfl | rfl | rfl
    all_goals
      simp only [List.getElem?_cons_succ, List.getElem?_cons_zero, Option.some.injEq] at ho
      subst ho
    · have q4 : A'.eval (.tmp 4) = lv := (haway 4 (by kernel_rfl)).trans rfl
      exact wp_of_runL (rMove _ _ _ _ _ A' w (.tmp 4) _ q4) ⟨_, rfl, rfl, LeavesE.plain (apP_below (fun _ _ _ _ => trivial)) (Below.refl _ _) (by decide)⟩
    · exact wp_of_runL (rField _ _ _ _ _ A' w 27 (.tmp 1) 6 N 0 6 _ _ Tryz.underlying27 rfl (by kernel_rfl) rfl (by kernel_rfl) q1) ⟨_, rfl, rfl, LeavesE.plain (apP_below (fun _ _ _ _ => trivial)) (Below.refl _ _) (by decide)⟩
    · have q68 : A'.eval (.tmp 68) = .pointer (some ⟨N, 6, none⟩) := (hsee 68 1 (by kernel_rfl) (by kernel_rfl)).2 (want_free (by kernel_rfl))
      have HLw := hT.fact 1 rfl (by simp [((hT.none_of (j := 7) (hT.none_of (j := 6) hei (by kernel_rfl)) (by kernel_rfl)) : e 7 = none)]) (by simp) rfl
      exact wp_of_runL (rLoad1 _ _ _ _ _ A' w 9 (.tmp 68) _ _ _ Tryz.underlying9 rfl ((whole_belowM HGq.out HLw).cell 6) q68) ⟨_, rfl, rfl, LeavesE.plain (apP_below (fun _ _ _ _ => trivial)) (Below.refl _ _) (by decide)⟩
    · exact wp_of_runL (rField _ _ _ _ _ A' w 27 (.tmp 1) 7 N 0 7 _ _ Tryz.underlying27 rfl (by kernel_rfl) rfl (by kernel_rfl) q1) ⟨_, rfl, rfl, LeavesE.plain (apP_below (fun _ _ _ _ => trivial)) (Below.refl _ _) (by decide)⟩
    · have q70 : A'.eval (.tmp 70) = .pointer (some ⟨N, 7, none⟩) := (hsee 70 3 (by kernel_rfl) (by kernel_rfl)).2 (want_free (by kernel_rfl))
      have HLw := hT.fact 1 rfl (by simp [((hT.none_of (j := 7) (hT.none_of (j := 6) (hT.none_of (j := 5) hei (by kernel_rfl)) (by kernel_rfl)) (by kernel_rfl)) : e 7 = none)]) (by simp) rfl
      exact wp_of_runL (rLoad1 _ _ _ _ _ A' w 9 (.tmp 70) _ _ _ Tryz.underlying9 rfl ((whole_belowM HGq.out HLw).cell 7) q70) ⟨_, rfl, rfl, LeavesE.plain (apP_below (fun _ _ _ _ => trivial)) (Below.refl _ _) (by decide)⟩
    · have q71 : A'.eval (.tmp 71) = .string x7 := (hsee 71 4 (by kernel_rfl) (by kernel_rfl)).2 (want_free (by kernel_rfl))
      refine wp_of_callL _ _ _ _ _ _ _ 17 _ [.tmp 71] [.string x7] (by simp [q71]) (by kernel_rfl) ?_
      refine (quote_any x7 HNn.out w).mono ?_
      rintro e' w2 ⟨rfl, hb2⟩
      exact ⟨_, rfl, _, rfl, rfl, LeavesE.plain (apP_below (fun _ _ _ _ => trivial)) hb2 (by decide)⟩
    · have q69 : A'.eval (.tmp 69) = .string x6 := (hsee 69 2 (by kernel_rfl) (by kernel_rfl)).2 (want_free (by kernel_rfl))
      have q72 : A'.eval (.tmp 72) = .string ⟨(Lex.quote x7.data.toList).toArray⟩ := (hsee 72 5 (by kernel_rfl) (by kernel_rfl)).2 (want_free (by kernel_rfl))
      exact wp_of_runL (run_twoS _ _ _ _ _ A' w 69 72 _ _ q69 q72) ⟨_, rfl, trivial, LeavesE.below (apP_below (fun _ _ _ _ => trivial)) ((Below.refl _ _).alloc (Nat.le_refl _) _) (ap_new_build (by decide) (by decide) _ (Whole.new _ _ _))⟩
    · have q67 : A'.eval (.tmp 67) = lv := (hsee 67 0 (by kernel_rfl) (by kernel_rfl)).2 (want_free (by kernel_rfl))
      have f6 : e 6 = some (A'.eval (.tmp 73)) := (hsee 73 6 (by kernel_rfl) (by kernel_rfl)).1
      have ho := hT.fact 2 rfl (by simp [hei]) (by simp) rfl
      obtain ⟨g, h1, h2⟩ := hT.fact 3 rfl (by simp [hei]) (by simp [f6]) rfl
      rw [valOf_some f6] at h1
      have h0 := hT.fact 0 rfl (by simp) (by simp) rfl
      obtain ⟨v, w', hr, hn, hg⟩ := run_appS _ ho h0.2 HLs.out h2
      exact wp_of_runL (run_appTwo _ _ _ _ _ A' w w' 67 73 _ _ _ _ q67 h1 hr) ⟨_, rfl, trivial, ap_leaves_app (fun _ _ _ _ _ => trivial) (by decide) (by decide) (hT.none_of hei (by kernel_rfl)) h0 ho hn hg⟩
    · have f7 : e 7 = some (A'.eval (.tmp 74)) := (hsee 74 7 (by kernel_rfl) (by kernel_rfl)).1
      exact wp_of_runL (rAssign _ _ _ _ _ A' w (.tmp 74) _ rfl) ⟨_, rfl, trivial, LeavesE.below (apP_below (fun _ _ _ _ => trivial)) (Below.refl _ _) (ap_new_assign (by decide) (by decide) f7)⟩
  intro e wz hT hall
  obtain ⟨v0, e0⟩ := hall 0 (by decide)
  obtain ⟨v1, e1⟩ := hall 1 (by decide)
  obtain ⟨v2, e2⟩ := hall 2 (by decide)
  obtain ⟨v3, e3⟩ := hall 3 (by decide)
  obtain ⟨v4, e4⟩ := hall 4 (by decide)
  obtain ⟨v5, e5⟩ := hall 5 (by decide)
  obtain ⟨v6, e6⟩ := hall 6 (by decide)
  obtain ⟨v7, e7⟩ := hall 7 (by decide)
  obtain ⟨v8, e8⟩ := hall 8 (by decide)
  have hF0 := hT.fact 0 rfl (by simp) (by simp) (by kernel_rfl)
  simp only [apP] at hF0
  have hF4 := hT.fact 4 rfl (by simp) (by simp [e7]) (by kernel_rfl)
  simp only [apP, valOf_some e7] at hF4
  have hF5 := hT.fact 5 rfl (by simp) (by simp [e7, e8]) (by kernel_rfl)
  simp only [apP, valOf_some e7, valOf_some e8] at hF5
  simp only [List.length_cons, List.length_nil, Nat.reduceAdd, fillTo, e0, e1, e2, e3, e4, e5, e6, e7, e8, dstOf]
  clear e0 e1 e2 e3 e4 e5 e6 e7 e8 hT hall
  have HF0 := Lib.hid hF0
  subst hF5
  have HF4 := Lib.hid hF4
  clear hF0 hF4
  go_simp
  have HJ := Lib.hid (join_own B _ (ss ++ [bts x6, Lex.quote x7.data.toList]) (by simp) (by rw [List.length_append]; exact HLs.out) wz HF4.out (by rw [← HTn.out]; exact HTj.out.2))
  rw [← HTn.out] at HJ
  have HBz : Hid (Below W.heap.size W wz) := Lib.hid (by have h := HBq.out.1.trans HF0.out.1; rw [HBb.out] at h; exact h)
  go_wp2_with fail
  refine HJ.out.mono ?_
  rintro e w8 ⟨rfl, hb8⟩
  have HB8 := Lib.hid (below_step HBz.out hb8)
  clear hb8
  go_wp2_with fail
  go_ret2
  exact ⟨rfl, HB8.out⟩
end Go.Proofs.YtbnofoncapaabaaGreatDoor
