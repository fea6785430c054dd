/- event.Text at a run; at any event. -/
import Derived.Test.YtbnofoncapaabaaGreatDoorEvtTextN
namespace Go.Proofs.YtbnofoncapaabaaGreatDoor
open Go.RowKit Go.Sort
open Evt

def etrV (g6 na nb : Nat) (lv : Value) : Nat → Value → Prop
  | 0, v => v = lv
  | 1, v => v = .pointer (some ⟨g6, 0, none⟩)
  | 2, v => v = .int .i64 (na : Int)
  | 3, v => v = .string ⟨(Lib.decDigits na).toArray⟩
  | 4, v => v = .pointer (some ⟨g6, 1, none⟩)
  | 5, v => v = .int .i64 (nb : Int)
  | 6, v => v = .string ⟨(Lib.decDigits nb).toArray⟩
  | _, _ => True
set_option maxRecDepth 100000 in
set_option maxHeartbeats 8000000 in
theorem evText_run (x : Ev) (hx : Sz x) (hv : Evt.valid x = true) (h4 : x.op = 4) (W : World) (hT : WTab W) (ht : Tab W) :
    Calls Tryz.prog 9 #[.agg (evC x).toArray] W fun e w' => e = .returned (.tuple #[.string ⟨(textE x).toArray⟩, .int .i64 0]) ∧ Below W.heap.size W w' := by
  obtain ⟨i1, hi1, hy0, hy1, hy2⟩ := infoP info_strE
  obtain ⟨o1, o2, d1, d2, -, -⟩ := valid_op hv
  have hU := ok4 hv h4
  have hl := textE_len hv
  obtain ⟨V, HV⟩ : ∃ w, Hid (w = W.alloc (.cells (evC x).toArray 27)) := ⟨_, Lib.hid rfl⟩
  obtain ⟨N, HN⟩ : ∃ N, Hid (N = W.heap.size) := ⟨_, Lib.hid rfl⟩
  have HB : Hid (Below W.heap.size W V) := Lib.hid (by rw [HV.out]; exact (Below.refl _ _).alloc (Nat.le_refl _) _)
  have HW : Hid (Whole V N 27 (evC x).toArray) := Lib.hid (by rw [HV.out, HN.out]; exact Whole.new _ _ _)
  have HC := Lib.hid (evValid_any x hx V)
  rw [hv] at HC
  have HSp := Lib.hid ev_size
  have HT := Lib.hid hT
  have HTb := Lib.hid ht
  obtain ⟨T, HTx⟩ : ∃ T, Hid (T = textE x) := ⟨_, Lib.hid rfl⟩
  have HTj : Hid (T = Lib.join ([wordOf x.op, digs x.day, bts x.part] ++
    (if x.op = 1 then [bts x.kind] else if x.op = 2 then [bts x.into, bts x.slot]
     else if x.op = 4 then [digs x.k0, digs x.k1, digs x.c0, digs x.c1, digs x.d0, digs x.d1]
     else if x.op = 6 then [bts x.key, Lex.quote x.value.data.toList] else [])) [32] ∧ T.length ≤ 140737488355328) := Lib.hid ⟨by rw [HTx.out]; rfl, by rw [HTx.out]; omega⟩
  rw [← HTx.out]
  clear hx hv hl hT ht HTx
  obtain ⟨x0, x1, x2, x3, x4, x5, x6, x7, x8, x9, xa, xb, xc, xd⟩ := x
  dsimp only at HTj h4 o1 o2 d1 d2 hU
  subst h4
  have HU := Lib.hid hU
  clear hU
  unfold evC at HV HC HW ⊢
  go_enter Tryz.func9, Tryz.ntmps9
  go_wp2_with fail
  rw [← HV.out, ← HN.out]
  refine HC.out.mono ?_
  rintro e w1 ⟨rfl, hb⟩
  have HB1 := Lib.hid (below_step HB.out hb)
  have HW1 := Lib.hid (whole_belowM HW.out hb)
  clear hb
  have HWT1 : Hid (∀ w, Below w1.heap.size w1 w → WTab w ∧ Tab w) := Lib.hid fun w hw => ⟨HT.out.below (below_step HB1.out hw), HTb.out.below (below_step HB1.out hw)⟩
  have HWn : Hid (∀ w, Below w1.heap.size w1 w → Whole w N 27 _) := Lib.hid fun w hw => whole_belowM HW1.out hw
  have HO := Lib.hid (And.intro o1 o2)
  have HD := Lib.hid (And.intro d1 d2)
  clear o1 o2 d1 d2
  go_wp2_with fail
  apply wp_region_monoL 77 (etP N W.heap.size 4 x1 x2) etP_below (by kernel_rfl) (by kernel_rfl) rfl
  · intro i o ho w A' hlow hsee haway
    have s1 : A'.eval (.tmp 1) = .pointer (some ⟨N, 0, none⟩) := (haway 1 (by kernel_rfl)).trans rfl
    have hi : i < 11 := by have := (List.getElem?_eq_some_iff.1 ho).1; simpa using this
    have hi : i = 0 ∨ i = 1 ∨ i = 2 ∨ i = 3 ∨ i = 4 ∨ i = 5 ∨ i = 6 ∨ i = 7 ∨ i = 8 ∨ i = 9 ∨ i = 10 := by omega
    rcases hi with rfl | rfl | rfl | rfl | rfl | rfl | rfl | rfl | rfl | rfl | rfl
    all_goals
      simp only [List.getElem?_cons_succ, List.getElem?_cons_zero, Option.some.injEq] at ho
      subst ho
    · exact wp_of_runL (run_fieldEv0 _ _ _ _ _ _ _ 1 N s1) ⟨_, rfl, Below.refl _ _, rfl⟩
    · have q : A'.eval (.tmp 10) = .pointer (some ⟨N, 0, none⟩) := hsee 10 (by decide) 0 rfl
      exact wp_of_runL (run_loadSI _ _ _ _ _ _ _ _ (Or.inl rfl) 10 _ _ q ((HWn.out w hlow).cell 0)) ⟨_, rfl, Below.refl _ _, rfl⟩
    · have q : A'.eval (.tmp 11) = .int .i64 4 := hsee 11 (by decide) 1 rfl
      exact wp_of_runL (run_indexW _ _ _ _ _ _ _ 11 4 HO.out.1 HO.out.2 q) ⟨_, rfl, Below.refl _ _, rfl⟩
    · have q : A'.eval (.tmp 12) = .pointer (some ⟨0, (4 : Int).toNat, none⟩) := hsee 12 (by decide) 2 rfl
      exact wp_of_runL (run_loadSI _ _ _ _ _ _ _ _ (Or.inr rfl) 12 _ _ q ((HWT1.out w hlow).1.cell (wordOf_at HO.out.1 HO.out.2))) ⟨_, rfl, Below.refl _ _, rfl⟩
    · exact wp_of_runL (run_fieldEv1 _ _ _ _ _ _ _ 1 N s1) ⟨_, rfl, Below.refl _ _, rfl⟩
    · have q : A'.eval (.tmp 14) = .pointer (some ⟨N, 1, none⟩) := hsee 14 (by decide) 4 rfl
      exact wp_of_runL (run_loadSI _ _ _ _ _ _ _ _ (Or.inl rfl) 14 _ _ q ((HWn.out w hlow).cell 1)) ⟨_, rfl, Below.refl _ _, rfl⟩
    · have q : A'.eval (.tmp 15) = .int .i64 x1 := hsee 15 (by decide) 5 rfl
      have hn : x1 = ((x1.toNat : Nat) : Int) := by have := HD.out.1; omega
      rw [hn] at q
      refine wp_of_callL _ _ _ _ _ _ _ 16 _ [.tmp 15] [.int .i64 (x1.toNat : Int)] (by simp [q]) rfl ?_
      refine (itoa_any x1.toNat (by have := HD.out.2; omega) w (HWT1.out w hlow).2).mono ?_
      rintro e w2 ⟨rfl, hb2⟩
      exact ⟨_, rfl, _, rfl, hb2, rfl⟩
    · exact wp_of_runL (run_fieldEv2 _ _ _ _ _ _ _ 1 N s1) ⟨_, rfl, Below.refl _ _, rfl⟩
    · have q : A'.eval (.tmp 17) = .pointer (some ⟨N, 2, none⟩) := hsee 17 (by decide) 7 rfl
      exact wp_of_runL (run_loadSI _ _ _ _ _ _ _ _ (Or.inr rfl) 17 _ _ q ((HWn.out w hlow).cell 2)) ⟨_, rfl, Below.refl _ _, rfl⟩
    · have q3 : A'.eval (.tmp 13) = .string ⟨(wordOf 4).toArray⟩ := hsee 13 (by decide) 3 rfl
      have q6 : A'.eval (.tmp 16) = .string ⟨(digs x1).toArray⟩ := hsee 16 (by decide) 6 rfl
      have q8 : A'.eval (.tmp 18) = .string x2 := hsee 18 (by decide) 8 rfl
      refine wp_of_runL (run_threeS _ _ _ _ _ _ _ 13 16 18 _ _ _ q3 q6 q8) ⟨_, rfl, (Below.refl _ _).alloc (Nat.le_refl _) _, ?_⟩
      refine ⟨rfl, Or.inr ⟨w.heap.size, 3, _, rfl, (below_step HB1.out hlow).size, Whole.new _ _ _, Nat.le_refl _, by unfold maxLen; omega, rfl, ?_⟩⟩
      simp [encStr, bts]
    · obtain ⟨v, hv⟩ : ∃ v, A'.eval (.tmp 19) = v := ⟨_, rfl⟩
      have q : OwnS W.heap.size w (A'.eval (.tmp 19)) [wordOf 4, digs x1, bts x2] := hsee 19 (by decide) 9 rfl
      exact wp_of_runL (run_assignL _ _ _ _ _ _ _ 19 _ rfl) ⟨_, rfl, Below.refl _ _, q⟩
  intro e w5 hlow hall
  obtain ⟨v0, e0, -⟩ := hall 0 (by decide)
  obtain ⟨v1, e1, -⟩ := hall 1 (by decide)
  obtain ⟨v2, e2, -⟩ := hall 2 (by decide)
  obtain ⟨v3, e3, -⟩ := hall 3 (by decide)
  obtain ⟨v4, e4, -⟩ := hall 4 (by decide)
  obtain ⟨v5, e5, -⟩ := hall 5 (by decide)
  obtain ⟨v6, e6, -⟩ := hall 6 (by decide)
  obtain ⟨v7, e7, -⟩ := hall 7 (by decide)
  obtain ⟨v8, e8, -⟩ := hall 8 (by decide)
  obtain ⟨v9, e9, -⟩ := hall 9 (by decide)
  obtain ⟨va, ea, ha⟩ := hall 10 (by decide)
  have HB5 := Lib.hid (below_step HB1.out hlow)
  have HO5 : Hid (OwnS W.heap.size w5 va [wordOf 4, digs x1, bts x2]) := Lib.hid ha
  have HW5 := Lib.hid (HWn.out w5 hlow)
  have c0 : w5.cell? ⟨N, 0, none⟩ = some (.int .i64 4) := HW5.out.cell 0
  simp only [List.length_cons, List.length_nil, Nat.reduceAdd, fillTo, e0, e1, e2, e3, e4, e5, e6, e7, e8, e9, ea, dstOf]
  clear e0 e1 e2 e3 e4 e5 e6 e7 e8 e9 ea hlow hall ha
  go_simp
  obtain ⟨B, HBb⟩ : ∃ B, Hid (B = W.heap.size) := ⟨_, Lib.hid rfl⟩
  obtain ⟨bs, Hbs⟩ : ∃ s, Hid (s = [wordOf 4, digs x1, bts x2]) := ⟨_, Lib.hid rfl⟩
  have HOs : Hid (OwnS B w5 va bs) := Lib.hid (by rw [HBb.out, Hbs.out]; exact HO5.out)
  have HTW : Hid (∀ w, Below W.heap.size W w → Tab w) := Lib.hid (fun w hw => HTb.out.below hw)
  have HTn : Hid (T = Lib.join (bs ++ [digs x8, digs x9, digs xa, digs xb, digs xc, digs xd]) [32]) := Lib.hid (by rw [HTj.out.1, Hbs.out]; simp)
  have hbl : bs.length = 3 := by rw [Hbs.out]; rfl
  have Hbl := Lib.hid hbl
  clear hbl
  obtain ⟨a0, ha0⟩ : ∃ n : Nat, x8 = n := ⟨x8.toNat, by have := HU.out; omega⟩
  obtain ⟨a1, ha1⟩ : ∃ n : Nat, x9 = n := ⟨x9.toNat, by have := HU.out; omega⟩
  obtain ⟨a2, ha2⟩ : ∃ n : Nat, xa = n := ⟨xa.toNat, by have := HU.out; omega⟩
  obtain ⟨a3, ha3⟩ : ∃ n : Nat, xb = n := ⟨xb.toNat, by have := HU.out; omega⟩
  obtain ⟨a4, ha4⟩ : ∃ n : Nat, xc = n := ⟨xc.toNat, by have := HU.out; omega⟩
  obtain ⟨a5, ha5⟩ : ∃ n : Nat, xd = n := ⟨xd.toNat, by have := HU.out; omega⟩
  subst ha0 ha1 ha2 ha3 ha4 ha5
  have hbnd : a0 ≤ 1000000 ∧ a1 ≤ 1000000 ∧ a2 ≤ 1000000 ∧ a3 ≤ 1000000 ∧ a4 ≤ 1000000 ∧ a5 ≤ 1000000 := by have := HU.out; omega
  have Hbnd := Lib.hid hbnd
  clear hbnd
  have k8 : w5.cell? ⟨N, 8, none⟩ = some (.int .i64 (a0 : Int)) := HW5.out.cell 8
  have k9 : w5.cell? ⟨N, 9, none⟩ = some (.int .i64 (a1 : Int)) := HW5.out.cell 9
  have ka : w5.cell? ⟨N, 10, none⟩ = some (.int .i64 (a2 : Int)) := HW5.out.cell 10
  have kb : w5.cell? ⟨N, 11, none⟩ = some (.int .i64 (a3 : Int)) := HW5.out.cell 11
  have kc : w5.cell? ⟨N, 12, none⟩ = some (.int .i64 (a4 : Int)) := HW5.out.cell 12
  have kd : w5.cell? ⟨N, 13, none⟩ = some (.int .i64 (a5 : Int)) := HW5.out.cell 13
  obtain ⟨g49, Hg49⟩ : ∃ x, Hid (x = w5.heap.size) := ⟨_, Lib.hid rfl⟩
  obtain ⟨arr, Harr⟩ : ∃ a : Array Value, Hid (a = #[.int .i64 (a0 : Int), .int .i64 (a1 : Int), .int .i64 (a2 : Int), .int .i64 (a3 : Int), .int .i64 (a4 : Int), .int .i64 (a5 : Int)]) := ⟨_, Lib.hid rfl⟩
  obtain ⟨w6, Hw6⟩ : ∃ x, Hid (x = w5.alloc (.cells #[.int .i64 (a0 : Int), .int .i64 (a1 : Int), .int .i64 (a2 : Int), .int .i64 (a3 : Int), .int .i64 (a4 : Int), .int .i64 (a5 : Int)] 23)) := ⟨_, Lib.hid rfl⟩
  have HW6 : Hid (Whole w6 g49 23 arr) := Lib.hid (by rw [Hw6.out, Hg49.out, Harr.out]; exact Whole.new _ _ _)
  have HB6 : Hid (Below B W w6 ∧ B ≤ w6.heap.size) := Lib.hid (by rw [HBb.out, Hw6.out]; exact ⟨below_alloc HB5.out _, (below_alloc HB5.out _).size⟩)
  have HO6 : Hid (OwnS B w6 va bs) := Lib.hid (HOs.out.below (by rw [Hw6.out]; exact (Below.refl _ _).alloc (Nat.le_refl _) _))
  have HRb : Hid (∀ w w', Whole w g49 23 arr → Below w.heap.size w w' → Whole w' g49 23 arr) := Lib.hid (fun w w' h hb => whole_belowM h hb)
  obtain ⟨rows, Hrows⟩ : ∃ f : Nat → List (List UInt8), Hid (f = fun q => bs ++ ([Lib.decDigits a0, Lib.decDigits a1, Lib.decDigits a2, Lib.decDigits a3, Lib.decDigits a4, Lib.decDigits a5]).take (2 * q)) := ⟨_, Lib.hid rfl⟩
  have HR0 : Hid (rows 0 = bs) := Lib.hid (by rw [Hrows.out]; simp)
  have HR1 : Hid (rows 1 = rows 0 ++ [Lib.decDigits a0, Lib.decDigits a1]) := Lib.hid (by rw [Hrows.out]; simp)
  have HR2 : Hid (rows 2 = rows 1 ++ [Lib.decDigits a2, Lib.decDigits a3]) := Lib.hid (by rw [Hrows.out]; simp)
  have HR3 : Hid (rows 3 = rows 2 ++ [Lib.decDigits a4, Lib.decDigits a5]) := Lib.hid (by rw [Hrows.out]; simp)
  have HRl : Hid (∀ q, (rows q).length ≤ 9) := Lib.hid (fun q => by rw [Hrows.out]; simp [Hbl.out]; omega)
  have HRe : Hid (T = Lib.join (rows 3) [32]) := Lib.hid (by rw [HTn.out, Hrows.out]; simp [digs])
  go_wp2_with fail
  rw [← Hw6.out, ← Hg49.out]
  clear c0
  clear k8 k9 ka kb kc kd
  go_loopw [4, 51] (fun l i wr => ∃ (q : Nat) (lv : Value), q ≤ 3 ∧ i = .int .i64 q ∧ l = lv ∧ Hid ((Below B W wr ∧ B ≤ wr.heap.size) ∧ OwnS B wr lv (rows q) ∧ Whole wr g49 23 arr)) (fun _ i _ => 3 - (intOf i).toNat)
  case atStart => exact ⟨0, _, by omega, by go_num, rfl, Lib.hid ⟨HB6.out, by rw [HR0.out]; exact HO6.out, HW6.out⟩⟩
  case round =>
    obtain ⟨q, lv, hq, rfl, hlv, HQ⟩ := hrel
    replace hlv := hlv.symm
    subst hlv
    have HRg : Hid (∀ ss w w', Whole w g49 23 arr → OwnS B w lv ss → w.grownBy w' lv.ownBlock → Whole w' g49 23 arr) := Lib.hid (fun ss w w' h ho hg => whole_grownM h hg (owns_wholeM ho h (by decide)))
    have hq4 : q = 0 ∨ q = 1 ∨ q = 2 ∨ q = 3 := by omega
    rcases hq4 with rfl | rfl | rfl | rfl
    · obtain ⟨na, nb, Hab⟩ : ∃ na nb, Hid (na = a0 ∧ nb = a1) := ⟨_, _, Lib.hid ⟨rfl, rfl⟩⟩
      obtain ⟨ss, Hss⟩ : ∃ s, Hid (s = rows 0) := ⟨_, Lib.hid rfl⟩
      rw [← Hss.out] at HQ
      have HNx : Hid (rows 1 = ss ++ [Lib.decDigits na, Lib.decDigits nb]) := Lib.hid (by rw [HR1.out, Hss.out, Hab.out.1, Hab.out.2])
      have HNn : Hid (na ≤ 140737488355328 ∧ nb ≤ 140737488355328) := Lib.hid (by have := Hbnd.out; have := Hab.out; omega)
      have HLs : Hid (ss.length + [Lib.decDigits na, Lib.decDigits nb].length ≤ 1000000) := Lib.hid (by have := HRl.out 0; rw [← Hss.out] at this; simp; omega)
      have cA : wr.cell? ⟨g49, 0, none⟩ = some (.int .i64 (na : Int)) := by rw [HQ.out.2.2.cell, Harr.out, Hab.out.1]; rfl
      have cB : wr.cell? ⟨g49, 1, none⟩ = some (.int .i64 (nb : Int)) := by rw [HQ.out.2.2.cell, Harr.out, Hab.out.2]; rfl
      replace HRg := Lib.hid (HRg.out ss)
      obtain ⟨g6, Hg6⟩ : ∃ x, Hid (x = wr.heap.size) := ⟨_, Lib.hid rfl⟩
      obtain ⟨wq, Hwq⟩ : ∃ x, Hid (x = wr.alloc (.cells #[.int .i64 (na : Int), .int .i64 (nb : Int)] 23)) := ⟨_, Lib.hid rfl⟩
      have hbq : Below wr.heap.size wr wq := by rw [Hwq.out]; exact (Below.refl _ _).alloc (Nat.le_refl _) _
      have HGq : Hid (Whole wq g6 23 #[.int .i64 (na : Int), .int .i64 (nb : Int)]) := Lib.hid (by rw [Hwq.out, Hg6.out]; exact Whole.new _ _ _)
      have HBq : Hid (Below B W wq ∧ B ≤ wq.heap.size) := Lib.hid ⟨below_low HQ.out.1.1 HQ.out.1.2 hbq, Nat.le_trans HQ.out.1.2 hbq.size⟩
      have HOq : Hid (OwnS B wq lv ss) := Lib.hid (by have h := HQ.out.2.1; exact (h.below hbq))
      have HRq : Hid (Whole wq g49 23 arr) := Lib.hid (whole_belowM HQ.out.2.2 hbq)
      have HTq : Hid (Tab wq) := Lib.hid (HTW.out wq (by have h := HBq.out.1; rw [HBb.out] at h; exact h))
      clear hbq
      go_wp2_with fail
      rw [← Hwq.out, ← Hg6.out]
      clear cA cB
      apply wp_region_entE 77 (apK 8 7 9) (apP B wq (fun w => Whole w g49 23 arr) lv ss [Lib.decDigits na, Lib.decDigits nb] 8 7 9) (etrV g6 na nb lv) apP_cg (by kernel_rfl) (by kernel_rfl) rfl (apP_zero HRb.out HRq.out HBq.out.2 HOq.out)
      · intro i o ho e w A' hT hei hwn hsee haway
        have q6 : A'.eval (.tmp 6) = .pointer (some ⟨g6, 0, none⟩) := (haway 6 (by kernel_rfl)).trans rfl
        have hi : i < 10 := by have := (List.getElem?_eq_some_iff.1 ho).1; simpa using this
        have hi : i = 0 ∨ i = 1 ∨ i = 2 ∨ i = 3 ∨ i = 4 ∨ i = 5 ∨ i = 6 ∨ i = 7 ∨ i = 8 ∨ i = 9 := by omega
        rcases hi with rfl | rfl | rfl | rfl | rfl | rfl | rfl | rfl | rfl | rfl
        all_goals
          simp only [List.getElem?_cons_succ, List.getElem?_cons_zero, Option.some.injEq] at ho
          subst ho
        · have q4 : A'.eval (.tmp 4) = lv := (haway 4 (by kernel_rfl)).trans rfl
          exact wp_of_runL (rMove _ _ _ _ _ A' w (.tmp 4) _ q4) ⟨_, rfl, rfl, LeavesE.plain (apP_below HRb.out) (Below.refl _ _) (by decide)⟩
        · exact wp_of_runL (rField _ _ _ _ _ A' w 23 (.tmp 6) 0 g6 0 0 _ _ Tryz.underlying23 rfl (by kernel_rfl) rfl (by kernel_rfl) q6) ⟨_, rfl, rfl, LeavesE.plain (apP_below HRb.out) (Below.refl _ _) (by decide)⟩
        · have q56 : A'.eval (.tmp 56) = .pointer (some ⟨g6, 0, none⟩) := (hsee 56 1 (by kernel_rfl) (by kernel_rfl)).2 (want_free (by kernel_rfl))
          have HLw := hT.fact 1 rfl (by simp [((hT.none_of (j := 8) (hT.none_of (j := 7) (hT.none_of (j := 3) hei (by kernel_rfl)) (by kernel_rfl)) (by kernel_rfl)) : e 8 = none)]) (by simp) rfl
          exact wp_of_runL (rLoad1 _ _ _ _ _ A' w 3 (.tmp 56) _ _ _ Tryz.underlying3 rfl ((whole_belowM HGq.out HLw).cell 0) q56) ⟨_, rfl, rfl, LeavesE.plain (apP_below HRb.out) (Below.refl _ _) (by decide)⟩
        · have q57 : A'.eval (.tmp 57) = .int .i64 (na : Int) := (hsee 57 2 (by kernel_rfl) (by kernel_rfl)).2 (want_free (by kernel_rfl))
          have HLw := hT.fact 1 rfl (by simp [((hT.none_of (j := 8) (hT.none_of (j := 7) hei (by kernel_rfl)) (by kernel_rfl)) : e 8 = none)]) (by simp) rfl
          refine wp_of_callL _ _ _ _ _ _ _ 16 _ [.tmp 57] [.int .i64 (na : Int)] (by simp [q57]) rfl ?_
          refine (itoa_any na HNn.out.1 w (HTq.out.below HLw)).mono ?_
          rintro e' w2 ⟨rfl, hb2⟩
          exact ⟨_, rfl, _, rfl, rfl, LeavesE.plain (apP_below HRb.out) hb2 (by decide)⟩
        · exact wp_of_runL (rField _ _ _ _ _ A' w 23 (.tmp 6) 1 g6 0 1 _ _ Tryz.underlying23 rfl (by kernel_rfl) rfl (by kernel_rfl) q6) ⟨_, rfl, rfl, LeavesE.plain (apP_below HRb.out) (Below.refl _ _) (by decide)⟩
        · have q59 : A'.eval (.tmp 59) = .pointer (some ⟨g6, 1, none⟩) := (hsee 59 4 (by kernel_rfl) (by kernel_rfl)).2 (want_free (by kernel_rfl))
          have HLw := hT.fact 1 rfl (by simp [((hT.none_of (j := 8) (hT.none_of (j := 7) (hT.none_of (j := 6) hei (by kernel_rfl)) (by kernel_rfl)) (by kernel_rfl)) : e 8 = none)]) (by simp) rfl
          exact wp_of_runL (rLoad1 _ _ _ _ _ A' w 3 (.tmp 59) _ _ _ Tryz.underlying3 rfl ((whole_belowM HGq.out HLw).cell 1) q59) ⟨_, rfl, rfl, LeavesE.plain (apP_below HRb.out) (Below.refl _ _) (by decide)⟩
        · have q60 : A'.eval (.tmp 60) = .int .i64 (nb : Int) := (hsee 60 5 (by kernel_rfl) (by kernel_rfl)).2 (want_free (by kernel_rfl))
          have HLw := hT.fact 1 rfl (by simp [((hT.none_of (j := 8) (hT.none_of (j := 7) hei (by kernel_rfl)) (by kernel_rfl)) : e 8 = none)]) (by simp) rfl
          refine wp_of_callL _ _ _ _ _ _ _ 16 _ [.tmp 60] [.int .i64 (nb : Int)] (by simp [q60]) rfl ?_
          refine (itoa_any nb HNn.out.2 w (HTq.out.below HLw)).mono ?_
          rintro e' w2 ⟨rfl, hb2⟩
          exact ⟨_, rfl, _, rfl, rfl, LeavesE.plain (apP_below HRb.out) hb2 (by decide)⟩
        · have q58 : A'.eval (.tmp 58) = .string ⟨(Lib.decDigits na).toArray⟩ := (hsee 58 3 (by kernel_rfl) (by kernel_rfl)).2 (want_free (by kernel_rfl))
          have q61 : A'.eval (.tmp 61) = .string ⟨(Lib.decDigits nb).toArray⟩ := (hsee 61 6 (by kernel_rfl) (by kernel_rfl)).2 (want_free (by kernel_rfl))
          exact wp_of_runL (run_twoS _ _ _ _ _ A' w 58 61 _ _ q58 q61) ⟨_, rfl, trivial, LeavesE.below (apP_below HRb.out) ((Below.refl _ _).alloc (Nat.le_refl _) _) (ap_new_build (by decide) (by decide) _ (Whole.new _ _ _))⟩
        · have q55 : A'.eval (.tmp 55) = lv := (hsee 55 0 (by kernel_rfl) (by kernel_rfl)).2 (want_free (by kernel_rfl))
          have f7 : e 7 = some (A'.eval (.tmp 62)) := (hsee 62 7 (by kernel_rfl) (by kernel_rfl)).1
          have ho := hT.fact 2 rfl (by simp [hei]) (by simp) rfl
          obtain ⟨g, h1, h2⟩ := hT.fact 3 rfl (by simp [hei]) (by simp [f7]) rfl
          rw [valOf_some f7] at h1
          have h0 := hT.fact 0 rfl (by simp) (by simp) rfl
          obtain ⟨v, w', hr, hn, hg⟩ := run_appS _ ho h0.2 HLs.out h2
          exact wp_of_runL (run_appTwo _ _ _ _ _ A' w w' 55 62 _ _ _ _ q55 h1 hr) ⟨_, rfl, trivial, ap_leaves_app HRg.out (by decide) (by decide) (hT.none_of hei (by kernel_rfl)) h0 ho hn hg⟩
        · have f8 : e 8 = some (A'.eval (.tmp 63)) := (hsee 63 8 (by kernel_rfl) (by kernel_rfl)).1
          exact wp_of_runL (rAssign _ _ _ _ _ A' w (.tmp 63) _ rfl) ⟨_, rfl, trivial, LeavesE.below (apP_below HRb.out) (Below.refl _ _) (ap_new_assign (by decide) (by decide) f8)⟩
      intro e wz hT hall
      obtain ⟨v0, e0⟩ := hall 0 (by decide)
      obtain ⟨v1, e1⟩ := hall 1 (by decide)
      obtain ⟨v2, e2⟩ := hall 2 (by decide)
      obtain ⟨v3, e3⟩ := hall 3 (by decide)
      obtain ⟨v4, e4⟩ := hall 4 (by decide)
      obtain ⟨v5, e5⟩ := hall 5 (by decide)
      obtain ⟨v6, e6⟩ := hall 6 (by decide)
      obtain ⟨v7, e7⟩ := hall 7 (by decide)
      obtain ⟨v8, e8⟩ := hall 8 (by decide)
      obtain ⟨v9, e9⟩ := hall 9 (by decide)
      have hF0 := hT.fact 0 rfl (by simp) (by simp) (by kernel_rfl)
      simp only [apP] at hF0
      have hF4 := hT.fact 4 rfl (by simp) (by simp [e8]) (by kernel_rfl)
      simp only [apP, valOf_some e8] at hF4
      have hF5 := hT.fact 5 rfl (by simp) (by simp [e8, e9]) (by kernel_rfl)
      simp only [apP, valOf_some e8, valOf_some e9] at hF5
      have hF6 := hT.fact 6 rfl (by simp) (by simp) (by kernel_rfl)
      simp only [apP] at hF6
      simp only [List.length_cons, List.length_nil, Nat.reduceAdd, fillTo, e0, e1, e2, e3, e4, e5, e6, e7, e8, e9, dstOf]
      clear e0 e1 e2 e3 e4 e5 e6 e7 e8 e9 hT hall
      have HF0 := Lib.hid hF0
      subst hF5
      have HF4 := Lib.hid hF4
      have HF6 := Lib.hid hF6
      clear hF0 hF4 hF6
      go_simp
      go_wp2_with fail
      go_round
      case rel => exact ⟨1, _, by omega, by go_num, rfl, Lib.hid ⟨⟨HBq.out.1.trans HF0.out.1, HF0.out.2⟩, by rw [HNx.out]; exact HF4.out, HF6.out⟩⟩
      case measure => simp [intOf]
    · obtain ⟨na, nb, Hab⟩ : ∃ na nb, Hid (na = a2 ∧ nb = a3) := ⟨_, _, Lib.hid ⟨rfl, rfl⟩⟩
      obtain ⟨ss, Hss⟩ : ∃ s, Hid (s = rows 1) := ⟨_, Lib.hid rfl⟩
      rw [← Hss.out] at HQ
      have HNx : Hid (rows 2 = ss ++ [Lib.decDigits na, Lib.decDigits nb]) := Lib.hid (by rw [HR2.out, Hss.out, Hab.out.1, Hab.out.2])
      have HNn : Hid (na ≤ 140737488355328 ∧ nb ≤ 140737488355328) := Lib.hid (by have := Hbnd.out; have := Hab.out; omega)
      have HLs : Hid (ss.length + [Lib.decDigits na, Lib.decDigits nb].length ≤ 1000000) := Lib.hid (by have := HRl.out 1; rw [← Hss.out] at this; simp; omega)
      have cA : wr.cell? ⟨g49, 2, none⟩ = some (.int .i64 (na : Int)) := by rw [HQ.out.2.2.cell, Harr.out, Hab.out.1]; rfl
      have cB : wr.cell? ⟨g49, 3, none⟩ = some (.int .i64 (nb : Int)) := by rw [HQ.out.2.2.cell, Harr.out, Hab.out.2]; rfl
      replace HRg := Lib.hid (HRg.out ss)
      obtain ⟨g6, Hg6⟩ : ∃ x, Hid (x = wr.heap.size) := ⟨_, Lib.hid rfl⟩
      obtain ⟨wq, Hwq⟩ : ∃ x, Hid (x = wr.alloc (.cells #[.int .i64 (na : Int), .int .i64 (nb : Int)] 23)) := ⟨_, Lib.hid rfl⟩
      have hbq : Below wr.heap.size wr wq := by rw [Hwq.out]; exact (Below.refl _ _).alloc (Nat.le_refl _) _
      have HGq : Hid (Whole wq g6 23 #[.int .i64 (na : Int), .int .i64 (nb : Int)]) := Lib.hid (by rw [Hwq.out, Hg6.out]; exact Whole.new _ _ _)
      have HBq : Hid (Below B W wq ∧ B ≤ wq.heap.size) := Lib.hid ⟨below_low HQ.out.1.1 HQ.out.1.2 hbq, Nat.le_trans HQ.out.1.2 hbq.size⟩
      have HOq : Hid (OwnS B wq lv ss) := Lib.hid (by have h := HQ.out.2.1; exact (h.below hbq))
      have HRq : Hid (Whole wq g49 23 arr) := Lib.hid (whole_belowM HQ.out.2.2 hbq)
      have HTq : Hid (Tab wq) := Lib.hid (HTW.out wq (by have h := HBq.out.1; rw [HBb.out] at h; exact h))
      clear hbq
      go_wp2_with fail
      rw [← Hwq.out, ← Hg6.out]
      clear cA cB
      apply wp_region_entE 77 (apK 8 7 9) (apP B wq (fun w => Whole w g49 23 arr) lv ss [Lib.decDigits na, Lib.decDigits nb] 8 7 9) (etrV g6 na nb lv) apP_cg (by kernel_rfl) (by kernel_rfl) rfl (apP_zero HRb.out HRq.out HBq.out.2 HOq.out)
      · intro i o ho e w A' hT hei hwn hsee haway
        have q6 : A'.eval (.tmp 6) = .pointer (some ⟨g6, 0, none⟩) := (haway 6 (by kernel_rfl)).trans rfl
        have hi : i < 10 := by have := (List.getElem?_eq_some_iff.1 ho).1; simpa using this
        have hi : i = 0 ∨ i = 1 ∨ i = 2 ∨ i = 3 ∨ i = 4 ∨ i = 5 ∨ i = 6 ∨ i = 7 ∨ i = 8 ∨ i = 9 := by omega
        rcases hi with rfl | rfl | rfl | rfl | rfl | rfl | rfl | rfl | rfl | rfl
        all_goals
          simp only [List.getElem?_cons_succ, List.getElem?_cons_zero, Option.some.injEq] at ho
          subst ho
        · have q4 : A'.eval (.tmp 4) = lv := (haway 4 (by kernel_rfl)).trans rfl
          exact wp_of_runL (rMove _ _ _ _ _ A' w (.tmp 4) _ q4) ⟨_, rfl, rfl, LeavesE.plain (apP_below HRb.out) (Below.refl _ _) (by decide)⟩
        · exact wp_of_runL (rField _ _ _ _ _ A' w 23 (.tmp 6) 0 g6 0 0 _ _ Tryz.underlying23 rfl (by kernel_rfl) rfl (by kernel_rfl) q6) ⟨_, rfl, rfl, LeavesE.plain (apP_below HRb.out) (Below.refl _ _) (by decide)⟩
        · have q56 : A'.eval (.tmp 56) = .pointer (some ⟨g6, 0, none⟩) := (hsee 56 1 (by kernel_rfl) (by kernel_rfl)).2 (want_free (by kernel_rfl))
          have HLw := hT.fact 1 rfl (by simp [((hT.none_of (j := 8) (hT.none_of (j := 7) (hT.none_of (j := 3) hei (by kernel_rfl)) (by kernel_rfl)) (by kernel_rfl)) : e 8 = none)]) (by simp) rfl
          exact wp_of_runL (rLoad1 _ _ _ _ _ A' w 3 (.tmp 56) _ _ _ Tryz.underlying3 rfl ((whole_belowM HGq.out HLw).cell 0) q56) ⟨_, rfl, rfl, LeavesE.plain (apP_below HRb.out) (Below.refl _ _) (by decide)⟩
        · have q57 : A'.eval (.tmp 57) = .int .i64 (na : Int) := (hsee 57 2 (by kernel_rfl) (by kernel_rfl)).2 (want_free (by kernel_rfl))
          have HLw := hT.fact 1 rfl (by simp [((hT.none_of (j := 8) (hT.none_of (j := 7) hei (by kernel_rfl)) (by kernel_rfl)) : e 8 = none)]) (by simp) rfl
          refine wp_of_callL _ _ _ _ _ _ _ 16 _ [.tmp 57] [.int .i64 (na : Int)] (by simp [q57]) rfl ?_
          refine (itoa_any na HNn.out.1 w (HTq.out.below HLw)).mono ?_
          rintro e' w2 ⟨rfl, hb2⟩
          exact ⟨_, rfl, _, rfl, rfl, LeavesE.plain (apP_below HRb.out) hb2 (by decide)⟩
        · exact wp_of_runL (rField _ _ _ _ _ A' w 23 (.tmp 6) 1 g6 0 1 _ _ Tryz.underlying23 rfl (by kernel_rfl) rfl (by kernel_rfl) q6) ⟨_, rfl, rfl, LeavesE.plain (apP_below HRb.out) (Below.refl _ _) (by decide)⟩
        · have q59 : A'.eval (.tmp 59) = .pointer (some ⟨g6, 1, none⟩) := (hsee 59 4 (by kernel_rfl) (by kernel_rfl)).2 (want_free (by kernel_rfl))
          have HLw := hT.fact 1 rfl (by simp [((hT.none_of (j := 8) (hT.none_of (j := 7) (hT.none_of (j := 6) hei (by kernel_rfl)) (by kernel_rfl)) (by kernel_rfl)) : e 8 = none)]) (by simp) rfl
          exact wp_of_runL (rLoad1 _ _ _ _ _ A' w 3 (.tmp 59) _ _ _ Tryz.underlying3 rfl ((whole_belowM HGq.out HLw).cell 1) q59) ⟨_, rfl, rfl, LeavesE.plain (apP_below HRb.out) (Below.refl _ _) (by decide)⟩
        · have q60 : A'.eval (.tmp 60) = .int .i64 (nb : Int) := (hsee 60 5 (by kernel_rfl) (by kernel_rfl)).2 (want_free (by kernel_rfl))
          have HLw := hT.fact 1 rfl (by simp [((hT.none_of (j := 8) (hT.none_of (j := 7) hei (by kernel_rfl)) (by kernel_rfl)) : e 8 = none)]) (by simp) rfl
          refine wp_of_callL _ _ _ _ _ _ _ 16 _ [.tmp 60] [.int .i64 (nb : Int)] (by simp [q60]) rfl ?_
          refine (itoa_any nb HNn.out.2 w (HTq.out.below HLw)).mono ?_
          rintro e' w2 ⟨rfl, hb2⟩
          exact ⟨_, rfl, _, rfl, rfl, LeavesE.plain (apP_below HRb.out) hb2 (by decide)⟩
        · have q58 : A'.eval (.tmp 58) = .string ⟨(Lib.decDigits na).toArray⟩ := (hsee 58 3 (by kernel_rfl) (by kernel_rfl)).2 (want_free (by kernel_rfl))
          have q61 : A'.eval (.tmp 61) = .string ⟨(Lib.decDigits nb).toArray⟩ := (hsee 61 6 (by kernel_rfl) (by kernel_rfl)).2 (want_free (by kernel_rfl))
          exact wp_of_runL (run_twoS _ _ _ _ _ A' w 58 61 _ _ q58 q61) ⟨_, rfl, trivial, LeavesE.below (apP_below HRb.out) ((Below.refl _ _).alloc (Nat.le_refl _) _) (ap_new_build (by decide) (by decide) _ (Whole.new _ _ _))⟩
        · have q55 : A'.eval (.tmp 55) = lv := (hsee 55 0 (by kernel_rfl) (by kernel_rfl)).2 (want_free (by kernel_rfl))
          have f7 : e 7 = some (A'.eval (.tmp 62)) := (hsee 62 7 (by kernel_rfl) (by kernel_rfl)).1
          have ho := hT.fact 2 rfl (by simp [hei]) (by simp) rfl
          obtain ⟨g, h1, h2⟩ := hT.fact 3 rfl (by simp [hei]) (by simp [f7]) rfl
          rw [valOf_some f7] at h1
          have h0 := hT.fact 0 rfl (by simp) (by simp) rfl
          obtain ⟨v, w', hr, hn, hg⟩ := run_appS _ ho h0.2 HLs.out h2
          exact wp_of_runL (run_appTwo _ _ _ _ _ A' w w' 55 62 _ _ _ _ q55 h1 hr) ⟨_, rfl, trivial, ap_leaves_app HRg.out (by decide) (by decide) (hT.none_of hei (by kernel_rfl)) h0 ho hn hg⟩
        · have f8 : e 8 = some (A'.eval (.tmp 63)) := (hsee 63 8 (by kernel_rfl) (by kernel_rfl)).1
          exact wp_of_runL (rAssign _ _ _ _ _ A' w (.tmp 63) _ rfl) ⟨_, rfl, trivial, LeavesE.below (apP_below HRb.out) (Below.refl _ _) (ap_new_assign (by decide) (by decide) f8)⟩
      intro e wz hT hall
      obtain ⟨v0, e0⟩ := hall 0 (by decide)
      obtain ⟨v1, e1⟩ := hall 1 (by decide)
      obtain ⟨v2, e2⟩ := hall 2 (by decide)
      obtain ⟨v3, e3⟩ := hall 3 (by decide)
      obtain ⟨v4, e4⟩ := hall 4 (by decide)
      obtain ⟨v5, e5⟩ := hall 5 (by decide)
      obtain ⟨v6, e6⟩ := hall 6 (by decide)
      obtain ⟨v7, e7⟩ := hall 7 (by decide)
      obtain ⟨v8, e8⟩ := hall 8 (by decide)
      obtain ⟨v9, e9⟩ := hall 9 (by decide)
      have hF0 := hT.fact 0 rfl (by simp) (by simp) (by kernel_rfl)
      simp only [apP] at hF0
      have hF4 := hT.fact 4 rfl (by simp) (by simp [e8]) (by kernel_rfl)
      simp only [apP, valOf_some e8] at hF4
      have hF5 := hT.fact 5 rfl (by simp) (by simp [e8, e9]) (by kernel_rfl)
      simp only [apP, valOf_some e8, valOf_some e9] at hF5
      have hF6 := hT.fact 6 rfl (by simp) (by simp) (by kernel_rfl)
      simp only [apP] at hF6
      simp only [List.length_cons, List.length_nil, Nat.reduceAdd, fillTo, e0, e1, e2, e3, e4, e5, e6, e7, e8, e9, dstOf]
      clear e0 e1 e2 e3 e4 e5 e6 e7 e8 e9 hT hall
      have HF0 := Lib.hid hF0
      subst hF5
      have HF4 := Lib.hid hF4
      have HF6 := Lib.hid hF6
      clear hF0 hF4 hF6
      go_simp
      go_wp2_with fail
      go_round
      case rel => exact ⟨2, _, by omega, by go_num, rfl, Lib.hid ⟨⟨HBq.out.1.trans HF0.out.1, HF0.out.2⟩, by rw [HNx.out]; exact HF4.out, HF6.out⟩⟩
      case measure => simp [intOf]
    · obtain ⟨na, nb, Hab⟩ : ∃ na nb, Hid (na = a4 ∧ nb = a5) := ⟨_, _, Lib.hid ⟨rfl, rfl⟩⟩
      obtain ⟨ss, Hss⟩ : ∃ s, Hid (s = rows 2) := ⟨_, Lib.hid rfl⟩
      rw [← Hss.out] at HQ
      have HNx : Hid (rows 3 = ss ++ [Lib.decDigits na, Lib.decDigits nb]) := Lib.hid (by rw [HR3.out, Hss.out, Hab.out.1, Hab.out.2])
      have HNn : Hid (na ≤ 140737488355328 ∧ nb ≤ 140737488355328) := Lib.hid (by have := Hbnd.out; have := Hab.out; omega)
      have HLs : Hid (ss.length + [Lib.decDigits na, Lib.decDigits nb].length ≤ 1000000) := Lib.hid (by have := HRl.out 2; rw [← Hss.out] at this; simp; omega)
      have cA : wr.cell? ⟨g49, 4, none⟩ = some (.int .i64 (na : Int)) := by rw [HQ.out.2.2.cell, Harr.out, Hab.out.1]; rfl
      have cB : wr.cell? ⟨g49, 5, none⟩ = some (.int .i64 (nb : Int)) := by rw [HQ.out.2.2.cell, Harr.out, Hab.out.2]; rfl
      replace HRg := Lib.hid (HRg.out ss)
      obtain ⟨g6, Hg6⟩ : ∃ x, Hid (x = wr.heap.size) := ⟨_, Lib.hid rfl⟩
      obtain ⟨wq, Hwq⟩ : ∃ x, Hid (x = wr.alloc (.cells #[.int .i64 (na : Int), .int .i64 (nb : Int)] 23)) := ⟨_, Lib.hid rfl⟩
      have hbq : Below wr.heap.size wr wq := by rw [Hwq.out]; exact (Below.refl _ _).alloc (Nat.le_refl _) _
      have HGq : Hid (Whole wq g6 23 #[.int .i64 (na : Int), .int .i64 (nb : Int)]) := Lib.hid (by rw [Hwq.out, Hg6.out]; exact Whole.new _ _ _)
      have HBq : Hid (Below B W wq ∧ B ≤ wq.heap.size) := Lib.hid ⟨below_low HQ.out.1.1 HQ.out.1.2 hbq, Nat.le_trans HQ.out.1.2 hbq.size⟩
      have HOq : Hid (OwnS B wq lv ss) := Lib.hid (by have h := HQ.out.2.1; exact (h.below hbq))
      have HRq : Hid (Whole wq g49 23 arr) := Lib.hid (whole_belowM HQ.out.2.2 hbq)
      have HTq : Hid (Tab wq) := Lib.hid (HTW.out wq (by have h := HBq.out.1; rw [HBb.out] at h; exact h))
      clear hbq
      go_wp2_with fail
      rw [← Hwq.out, ← Hg6.out]
      clear cA cB
      apply wp_region_entE 77 (apK 8 7 9) (apP B wq (fun w => Whole w g49 23 arr) lv ss [Lib.decDigits na, Lib.decDigits nb] 8 7 9) (etrV g6 na nb lv) apP_cg (by kernel_rfl) (by kernel_rfl) rfl (apP_zero HRb.out HRq.out HBq.out.2 HOq.out)
      · intro i o ho e w A' hT hei hwn hsee haway
        have q6 : A'.eval (.tmp 6) = .pointer (some ⟨g6, 0, none⟩) := (haway 6 (by kernel_rfl)).trans rfl
        have hi : i < 10 := by have := (List.getElem?_eq_some_iff.1 ho).1; simpa using this
        have hi : i = 0 ∨ i = 1 ∨ i = 2 ∨ i = 3 ∨ i = 4 ∨ i = 5 ∨ i = 6 ∨ i = 7 ∨ i = 8 ∨ i = 9 := by omega
        rcases hi with rfl | rfl | rfl | rfl | rfl | rfl | rfl | rfl | rfl | rfl
        all_goals
          simp only [List.getElem?_cons_succ, List.getElem?_cons_zero, Option.some.injEq] at ho
          subst ho
        · have q4 : A'.eval (.tmp 4) = lv := (haway 4 (by kernel_rfl)).trans rfl
          exact wp_of_runL (rMove _ _ _ _ _ A' w (.tmp 4) _ q4) ⟨_, rfl, rfl, LeavesE.plain (apP_below HRb.out) (Below.refl _ _) (by decide)⟩
        · exact wp_of_runL (rField _ _ _ _ _ A' w 23 (.tmp 6) 0 g6 0 0 _ _ Tryz.underlying23 rfl (by kernel_rfl) rfl (by kernel_rfl) q6) ⟨_, rfl, rfl, LeavesE.plain (apP_below HRb.out) (Below.refl _ _) (by decide)⟩
        · have q56 : A'.eval (.tmp 56) = .pointer (some ⟨g6, 0, none⟩) := (hsee 56 1 (by kernel_rfl) (by kernel_rfl)).2 (want_free (by kernel_rfl))
          have HLw := hT.fact 1 rfl (by simp [((hT.none_of (j := 8) (hT.none_of (j := 7) (hT.none_of (j := 3) hei (by kernel_rfl)) (by kernel_rfl)) (by kernel_rfl)) : e 8 = none)]) (by simp) rfl
          exact wp_of_runL (rLoad1 _ _ _ _ _ A' w 3 (.tmp 56) _ _ _ Tryz.underlying3 rfl ((whole_belowM HGq.out HLw).cell 0) q56) ⟨_, rfl, rfl, LeavesE.plain (apP_below HRb.out) (Below.refl _ _) (by decide)⟩
        · have q57 : A'.eval (.tmp 57) = .int .i64 (na : Int) := (hsee 57 2 (by kernel_rfl) (by kernel_rfl)).2 (want_free (by kernel_rfl))
          have HLw := hT.fact 1 rfl (by simp [((hT.none_of (j := 8) (hT.none_of (j := 7) hei (by kernel_rfl)) (by kernel_rfl)) : e 8 = none)]) (by simp) rfl
          refine wp_of_callL _ _ _ _ _ _ _ 16 _ [.tmp 57] [.int .i64 (na : Int)] (by simp [q57]) rfl ?_
          refine (itoa_any na HNn.out.1 w (HTq.out.below HLw)).mono ?_
          rintro e' w2 ⟨rfl, hb2⟩
          exact ⟨_, rfl, _, rfl, rfl, LeavesE.plain (apP_below HRb.out) hb2 (by decide)⟩
        · exact wp_of_runL (rField _ _ _ _ _ A' w 23 (.tmp 6) 1 g6 0 1 _ _ Tryz.underlying23 rfl (by kernel_rfl) rfl (by kernel_rfl) q6) ⟨_, rfl, rfl, LeavesE.plain (apP_below HRb.out) (Below.refl _ _) (by decide)⟩
        · have q59 : A'.eval (.tmp 59) = .pointer (some ⟨g6, 1, none⟩) := (hsee 59 4 (by kernel_rfl) (by kernel_rfl)).2 (want_free (by kernel_rfl))
          have HLw := hT.fact 1 rfl (by simp [((hT.none_of (j := 8) (hT.none_of (j := 7) (hT.none_of (j := 6) hei (by kernel_rfl)) (by kernel_rfl)) (by kernel_rfl)) : e 8 = none)]) (by simp) rfl
          exact wp_of_runL (rLoad1 _ _ _ _ _ A' w 3 (.tmp 59) _ _ _ Tryz.underlying3 rfl ((whole_belowM HGq.out HLw).cell 1) q59) ⟨_, rfl, rfl, LeavesE.plain (apP_below HRb.out) (Below.refl _ _) (by decide)⟩
        · have q60 : A'.eval (.tmp 60) = .int .i64 (nb : Int) := (hsee 60 5 (by kernel_rfl) (by kernel_rfl)).2 (want_free (by kernel_rfl))
          have HLw := hT.fact 1 rfl (by simp [((hT.none_of (j := 8) (hT.none_of (j := 7) hei (by kernel_rfl)) (by kernel_rfl)) : e 8 = none)]) (by simp) rfl
          refine wp_of_callL _ _ _ _ _ _ _ 16 _ [.tmp 60] [.int .i64 (nb : Int)] (by simp [q60]) rfl ?_
          refine (itoa_any nb HNn.out.2 w (HTq.out.below HLw)).mono ?_
          rintro e' w2 ⟨rfl, hb2⟩
          exact ⟨_, rfl, _, rfl, rfl, LeavesE.plain (apP_below HRb.out) hb2 (by decide)⟩
        · have q58 : A'.eval (.tmp 58) = .string ⟨(Lib.decDigits na).toArray⟩ := (hsee 58 3 (by kernel_rfl) (by kernel_rfl)).2 (want_free (by kernel_rfl))
          have q61 : A'.eval (.tmp 61) = .string ⟨(Lib.decDigits nb).toArray⟩ := (hsee 61 6 (by kernel_rfl) (by kernel_rfl)).2 (want_free (by kernel_rfl))
          exact wp_of_runL (run_twoS _ _ _ _ _ A' w 58 61 _ _ q58 q61) ⟨_, rfl, trivial, LeavesE.below (apP_below HRb.out) ((Below.refl _ _).alloc (Nat.le_refl _) _) (ap_new_build (by decide) (by decide) _ (Whole.new _ _ _))⟩
        · have q55 : A'.eval (.tmp 55) = lv := (hsee 55 0 (by kernel_rfl) (by kernel_rfl)).2 (want_free (by kernel_rfl))
          have f7 : e 7 = some (A'.eval (.tmp 62)) := (hsee 62 7 (by kernel_rfl) (by kernel_rfl)).1
          have ho := hT.fact 2 rfl (by simp [hei]) (by simp) rfl
          obtain ⟨g, h1, h2⟩ := hT.fact 3 rfl (by simp [hei]) (by simp [f7]) rfl
          rw [valOf_some f7] at h1
          have h0 := hT.fact 0 rfl (by simp) (by simp) rfl
          obtain ⟨v, w', hr, hn, hg⟩ := run_appS _ ho h0.2 HLs.out h2
          exact wp_of_runL (run_appTwo _ _ _ _ _ A' w w' 55 62 _ _ _ _ q55 h1 hr) ⟨_, rfl, trivial, ap_leaves_app HRg.out (by decide) (by decide) (hT.none_of hei (by kernel_rfl)) h0 ho hn hg⟩
        · have f8 : e 8 = some (A'.eval (.tmp 63)) := (hsee 63 8 (by kernel_rfl) (by kernel_rfl)).1
          exact wp_of_runL (rAssign _ _ _ _ _ A' w (.tmp 63) _ rfl) ⟨_, rfl, trivial, LeavesE.below (apP_below HRb.out) (Below.refl _ _) (ap_new_assign (by decide) (by decide) f8)⟩
      intro e wz hT hall
      obtain ⟨v0, e0⟩ := hall 0 (by decide)
      obtain ⟨v1, e1⟩ := hall 1 (by decide)
      obtain ⟨v2, e2⟩ := hall 2 (by decide)
      obtain ⟨v3, e3⟩ := hall 3 (by decide)
      obtain ⟨v4, e4⟩ := hall 4 (by decide)
      obtain ⟨v5, e5⟩ := hall 5 (by decide)
      obtain ⟨v6, e6⟩ := hall 6 (by decide)
      obtain ⟨v7, e7⟩ := hall 7 (by decide)
      obtain ⟨v8, e8⟩ := hall 8 (by decide)
      obtain ⟨v9, e9⟩ := hall 9 (by decide)
      have hF0 := hT.fact 0 rfl (by simp) (by simp) (by kernel_rfl)
      simp only [apP] at hF0
      have hF4 := hT.fact 4 rfl (by simp) (by simp [e8]) (by kernel_rfl)
      simp only [apP, valOf_some e8] at hF4
      have hF5 := hT.fact 5 rfl (by simp) (by simp [e8, e9]) (by kernel_rfl)
      simp only [apP, valOf_some e8, valOf_some e9] at hF5
      have hF6 := hT.fact 6 rfl (by simp) (by simp) (by kernel_rfl)
      simp only [apP] at hF6
      simp only [List.length_cons, List.length_nil, Nat.reduceAdd, fillTo, e0, e1, e2, e3, e4, e5, e6, e7, e8, e9, dstOf]
      clear e0 e1 e2 e3 e4 e5 e6 e7 e8 e9 hT hall
      have HF0 := Lib.hid hF0
      subst hF5
      have HF4 := Lib.hid hF4
      have HF6 := Lib.hid hF6
      clear hF0 hF4 hF6
      go_simp
      go_wp2_with fail
      go_round
      case rel => exact ⟨3, _, by omega, by go_num, rfl, Lib.hid ⟨⟨HBq.out.1.trans HF0.out.1, HF0.out.2⟩, by rw [HNx.out]; exact HF4.out, HF6.out⟩⟩
      case measure => simp [intOf]
    · have HBz : Hid (Below W.heap.size W wr) := Lib.hid (by have h := HQ.out.1.1; rw [HBb.out] at h; exact h)
      have HJ := Lib.hid (join_own B _ (rows 3) (by rw [HR3.out]; simp) (by have := HRl.out 3; omega) wr HQ.out.2.1 (by rw [← HRe.out]; exact HTj.out.2))
      rw [← HRe.out] at HJ
      go_wp2_with fail
      refine HJ.out.mono ?_
      rintro e w8 ⟨rfl, hb8⟩
      have HB8 := Lib.hid (below_step HBz.out hb8)
      clear hb8
      go_wp2_with fail
      go_ret2
      exact ⟨rfl, HB8.out⟩

theorem evText_yes (x : Ev) (hx : Sz x) (hv : Evt.valid x = true) (W : World) (hT : WTab W) (ht : Tab W) :
    Calls Tryz.prog 9 #[.agg (evC x).toArray] W fun e w' => e = .returned (.tuple #[.string ⟨(textE x).toArray⟩, .int .i64 0]) ∧ Below W.heap.size W w' := by
  by_cases h4 : x.op = 4
  · exact evText_run x hx hv h4 W hT ht
  · by_cases h6 : x.op = 6
    · exact evText_note x hx hv h6 W hT ht
    · exact evText_good x hx hv h4 h6 (by have := textE_len hv; omega) W hT ht
end Go.Proofs.YtbnofoncapaabaaGreatDoor
