/- event.Text: the walk. -/
import Derived.Test.YtbnofoncapaabaaGreatDoorEvtTextM
import Derived.Test.YtbnofoncapaabaaGreatDoorEvNames
import Derived.Test.YtbnofoncapaabaaGreatDoorMonoG
namespace Go.Proofs.YtbnofoncapaabaaGreatDoor
open Go.RowKit Go.Sort
open Evt

theorem join_own (B : Nat) (v : Value) (ss : List (List UInt8)) (hp : ss ≠ []) (hn : ss.length ≤ 1000000) (w : World) (h : OwnS B w v ss) (hl : (Lib.join ss [32]).length ≤ 140737488355328) :
    Calls Tryz.prog 18 #[v, .string ⟨#[32]⟩] w fun e w' => e = .returned (.string ⟨(Lib.join ss [32]).toArray⟩) ∧ Below w.heap.size w w' := by
  rcases h.2 with ⟨rfl, hnil⟩ | ⟨g, cap, cur, rfl, hbase, hb, h1, h2, h3, h4⟩
  · exact absurd (List.eq_nil_of_length_eq_zero hnil) hp
  · have hlt : g < w.heap.size := (Array.getElem?_eq_some_iff.1 hb).1
    obtain ⟨xs, HX⟩ : ∃ xs : List ByteArray, xs = ss.map fun s => (⟨s.toArray⟩ : ByteArray) := ⟨_, rfl⟩
    have e1 : xs.map (·.data.toList) = ss := by rw [HX, List.map_map]; simp [Function.comp_def]
    have e2 : xs.length = ss.length := by rw [HX, List.length_map]
    have hcell : ∀ (j : Nat) x, xs[j]? = some x → w.cell? ⟨g, 0 + j, none⟩ = some (.string x) := by
      intro j x hj
      rw [Nat.zero_add, (show Whole w g 9 cur from hb).cell j]
      rw [HX, List.getElem?_map, Option.map_eq_some_iff] at hj
      obtain ⟨s, hs, rfl⟩ := hj
      have hq : (cur.toList.take (ss.length * 1))[j]? = (ss.map encStr)[j]? := by rw [h4]
      have hjl := (List.getElem?_eq_some_iff.1 hs).1
      rw [List.getElem?_take, if_pos (by omega), List.getElem?_map, hs] at hq
      simpa using hq
    have := Tryz.strings_Join g 0 cap xs ⟨#[32]⟩ w hcell hlt (by omega) (by omega) (by rw [e1]; exact hl)
    rw [e1, e2] at this
    exact this

section
variable (d : Option Tmp) (t : TypeId) (pos : String) (af : Array Edge) (g : Option (Nat × Bool)) (A : Act) (w : World)
theorem run_fieldEv0 (x : Tmp) (b : Nat) (hx : A.eval (.tmp x) = .pointer (some ⟨b, 0, none⟩)) :
    (execOp A.eval ⟨d, .fieldAddr 27 (.tmp x) 0, t, pos, af, g⟩).run Tryz.prog w = .ok (.value (.pointer (some ⟨b, 0, none⟩))) w := by
  unfold execOp
  simp only [hx]
  go_simp
theorem run_fieldEv1 (x : Tmp) (b : Nat) (hx : A.eval (.tmp x) = .pointer (some ⟨b, 0, none⟩)) :
    (execOp A.eval ⟨d, .fieldAddr 27 (.tmp x) 1, t, pos, af, g⟩).run Tryz.prog w = .ok (.value (.pointer (some ⟨b, 1, none⟩))) w := by
  unfold execOp
  simp only [hx]
  go_simp
theorem run_fieldEv2 (x : Tmp) (b : Nat) (hx : A.eval (.tmp x) = .pointer (some ⟨b, 0, none⟩)) :
    (execOp A.eval ⟨d, .fieldAddr 27 (.tmp x) 2, t, pos, af, g⟩).run Tryz.prog w = .ok (.value (.pointer (some ⟨b, 2, none⟩))) w := by
  unfold execOp
  simp only [hx]
  go_simp
theorem run_loadSI (T : TypeId) (hT : T = 3 ∨ T = 9) (x : Tmp) (p : Addr) (v : Value) (hx : A.eval (.tmp x) = .pointer (some p)) (hc : w.cell? p = some v) :
    (execOp A.eval ⟨d, .load T (.tmp x), t, pos, af, g⟩).run Tryz.prog w = .ok (.value v) w := by
  unfold execOp
  rcases hT with rfl | rfl <;> simp only [hx] <;> go_simp
theorem run_indexW (y : Tmp) (z : Int) (h1 : 1 ≤ z) (h2 : z ≤ 7) (hy : A.eval (.tmp y) = .int .i64 z) :
    (execOp A.eval ⟨d, .indexAddr 44 (.global 0) (.tmp y), t, pos, af, g⟩).run Tryz.prog w = .ok (.value (.pointer (some ⟨0, z.toNat, none⟩))) w := by
  have h0 : (0 : Int) ≤ z := by omega
  have h3 : z < 8 := by omega
  unfold execOp
  simp only [hy]
  go_simp
theorem run_threeS (x y z : Tmp) (a b c : ByteArray) (hx : A.eval (.tmp x) = .string a) (hy : A.eval (.tmp y) = .string b) (hz : A.eval (.tmp z) = .string c) :
    (execOp A.eval ⟨d, .buildSlice 36 3 #[(0, .tmp x), (1, .tmp y), (2, .tmp z)], t, pos, af, g⟩).run Tryz.prog w = .ok (.value (.slice (some ⟨w.heap.size, 0, none⟩) 3 3)) (w.alloc (.cells #[.string a, .string b, .string c] 9)) := by
  unfold execOp
  simp only [hx, hy, hz, List.map_toArray, List.map_cons, List.map_nil]
  go_simp
end

def etP (N B : Nat) (x0 x1 : Int) (x2 : ByteArray) : Nat → Value → World → Prop
  | 0, v, _ => v = .pointer (some ⟨N, 0, none⟩)
  | 1, v, _ => v = .int .i64 x0
  | 2, v, _ => v = .pointer (some ⟨0, x0.toNat, none⟩)
  | 3, v, _ => v = .string ⟨(wordOf x0).toArray⟩
  | 4, v, _ => v = .pointer (some ⟨N, 1, none⟩)
  | 5, v, _ => v = .int .i64 x1
  | 6, v, _ => v = .string ⟨(digs x1).toArray⟩
  | 7, v, _ => v = .pointer (some ⟨N, 2, none⟩)
  | 8, v, _ => v = .string x2
  | 9, v, w => OwnS B w v [wordOf x0, digs x1, bts x2]
  | 10, v, w => OwnS B w v [wordOf x0, digs x1, bts x2]
  | _, _, _ => True
theorem etP_below {N B : Nat} {x0 x1 : Int} {x2 : ByteArray} : ∀ j u w w', etP N B x0 x1 x2 j u w → Below w.heap.size w w' → etP N B x0 x1 x2 j u w'
  | 0, _, _, _, h, _ => h
  | 1, _, _, _, h, _ => h
  | 2, _, _, _, h, _ => h
  | 3, _, _, _, h, _ => h
  | 4, _, _, _, h, _ => h
  | 5, _, _, _, h, _ => h
  | 6, _, _, _, h, _ => h
  | 7, _, _, _, h, _ => h
  | 8, _, _, _, h, _ => h
  | 9, _, _, _, h, hb => OwnS.below h hb
  | 10, _, _, _, h, hb => OwnS.below h hb
  | _ + 11, _, _, _, _, _ => trivial

set_option maxRecDepth 100000 in
set_option maxHeartbeats 8000000 in
theorem evText_bad (x : Ev) (hx : Sz x) (hv : Evt.valid x = false) (W : World) :
    Calls Tryz.prog 9 #[.agg (evC x).toArray] W fun e w' => e = .returned (.tuple #[.string ⟨#[]⟩, .int .i64 1]) ∧ Below W.heap.size W w' := by
  obtain ⟨V, HV⟩ : ∃ w, Hid (w = W.alloc (.cells (evC x).toArray 27)) := ⟨_, Lib.hid rfl⟩
  obtain ⟨N, HN⟩ : ∃ N, Hid (N = W.heap.size) := ⟨_, Lib.hid rfl⟩
  have HB : Hid (Below W.heap.size W V) := Lib.hid (by rw [HV.out]; exact (Below.refl _ _).alloc (Nat.le_refl _) _)
  have HC := Lib.hid (evValid_any x hx V)
  rw [hv] at HC
  have HSp := Lib.hid ev_size
  clear hx hv
  obtain ⟨x0, x1, x2, x3, x4, x5, x6, x7, x8, x9, xa, xb, xc, xd⟩ := x
  unfold evC at HV HC ⊢
  go_enter Tryz.func9, Tryz.ntmps9
  go_wp2_with fail
  rw [← HV.out, ← HN.out]
  refine HC.out.mono ?_
  rintro e w1 ⟨rfl, hb⟩
  have HB1 := Lib.hid (below_step HB.out hb)
  clear hb
  go_wp2_with fail
  go_ret2
  exact ⟨rfl, HB1.out⟩

set_option maxRecDepth 100000 in
set_option maxHeartbeats 8000000 in
theorem evText_good (x : Ev) (hx : Sz x) (hv : Evt.valid x = true) (h4 : x.op ≠ 4) (h6 : x.op ≠ 6) (hl : (textE x).length ≤ 140737488355328) (W : World) (hT : WTab W) (ht : Tab W) :
    Calls Tryz.prog 9 #[.agg (evC x).toArray] W fun e w' => e = .returned (.tuple #[.string ⟨(textE x).toArray⟩, .int .i64 0]) ∧ Below W.heap.size W w' := by
  obtain ⟨i1, hi1, hy0, hy1, hy2⟩ := infoP info_strE
  obtain ⟨o1, o2, d1, d2, -, -⟩ := valid_op hv
  obtain ⟨V, HV⟩ : ∃ w, Hid (w = W.alloc (.cells (evC x).toArray 27)) := ⟨_, Lib.hid rfl⟩
  obtain ⟨N, HN⟩ : ∃ N, Hid (N = W.heap.size) := ⟨_, Lib.hid rfl⟩
  have HB : Hid (Below W.heap.size W V) := Lib.hid (by rw [HV.out]; exact (Below.refl _ _).alloc (Nat.le_refl _) _)
  have HW : Hid (Whole V N 27 (evC x).toArray) := Lib.hid (by rw [HV.out, HN.out]; exact Whole.new _ _ _)
  have HC := Lib.hid (evValid_any x hx V)
  rw [hv] at HC
  have HSp := Lib.hid ev_size
  have HT := Lib.hid hT
  have HTb := Lib.hid ht
  obtain ⟨T, HTx⟩ : ∃ T, Hid (T = textE x) := ⟨_, Lib.hid rfl⟩
  have HTj : Hid (T = Lib.join ([wordOf x.op, digs x.day, bts x.part] ++
    (if x.op = 1 then [bts x.kind] else if x.op = 2 then [bts x.into, bts x.slot]
     else if x.op = 4 then [digs x.k0, digs x.k1, digs x.c0, digs x.c1, digs x.d0, digs x.d1]
     else if x.op = 6 then [bts x.key, Lex.quote x.value.data.toList] else [])) [32] ∧ T.length ≤ 140737488355328) := Lib.hid ⟨by rw [HTx.out]; rfl, by rw [HTx.out]; exact hl⟩
  rw [← HTx.out]
  clear hx hv hl hT ht HTx
  obtain ⟨x0, x1, x2, x3, x4, x5, x6, x7, x8, x9, xa, xb, xc, xd⟩ := x
  dsimp only at HTj h4 h6 o1 o2 d1 d2
  unfold evC at HV HC HW ⊢
  go_enter Tryz.func9, Tryz.ntmps9
  go_wp2_with fail
  rw [← HV.out, ← HN.out]
  refine HC.out.mono ?_
  rintro e w1 ⟨rfl, hb⟩
  have HB1 := Lib.hid (below_step HB.out hb)
  have HW1 := Lib.hid (whole_belowM HW.out hb)
  clear hb
  have HWT1 : Hid (∀ w, Below w1.heap.size w1 w → WTab w ∧ Tab w) := Lib.hid fun w hw => ⟨HT.out.below (below_step HB1.out hw), HTb.out.below (below_step HB1.out hw)⟩
  have HWn : Hid (∀ w, Below w1.heap.size w1 w → Whole w N 27 _) := Lib.hid fun w hw => whole_belowM HW1.out hw
  have HO := Lib.hid (And.intro o1 o2)
  have HD := Lib.hid (And.intro d1 d2)
  clear o1 o2 d1 d2
  go_wp2_with fail
  apply wp_region_monoL 77 (etP N W.heap.size x0 x1 x2) etP_below (by kernel_rfl) (by kernel_rfl) rfl
  · intro i o ho w A' hlow hsee haway
    have s1 : A'.eval (.tmp 1) = .pointer (some ⟨N, 0, none⟩) := (haway 1 (by kernel_rfl)).trans rfl
    have hi : i < 11 := by have := (List.getElem?_eq_some_iff.1 ho).1; simpa using this
    have hi : i = 0 ∨ i = 1 ∨ i = 2 ∨ i = 3 ∨ i = 4 ∨ i = 5 ∨ i = 6 ∨ i = 7 ∨ i = 8 ∨ i = 9 ∨ i = 10 := by omega
    rcases hi with rfl | rfl | rfl | rfl | rfl | rfl | rfl | rfl | rfl | rfl | rfl
    all_goals
      simp only [List.getElem?_cons_succ, List.getElem?_cons_zero, Option.some.injEq] at ho
      subst ho
    · exact wp_of_runL (run_fieldEv0 _ _ _ _ _ _ _ 1 N s1) ⟨_, rfl, Below.refl _ _, rfl⟩
    · have q : A'.eval (.tmp 10) = .pointer (some ⟨N, 0, none⟩) := hsee 10 (by decide) 0 rfl
      exact wp_of_runL (run_loadSI _ _ _ _ _ _ _ _ (Or.inl rfl) 10 _ _ q ((HWn.out w hlow).cell 0)) ⟨_, rfl, Below.refl _ _, rfl⟩
    · have q : A'.eval (.tmp 11) = .int .i64 x0 := hsee 11 (by decide) 1 rfl
      exact wp_of_runL (run_indexW _ _ _ _ _ _ _ 11 x0 HO.out.1 HO.out.2 q) ⟨_, rfl, Below.refl _ _, rfl⟩
    · have q : A'.eval (.tmp 12) = .pointer (some ⟨0, x0.toNat, none⟩) := hsee 12 (by decide) 2 rfl
      exact wp_of_runL (run_loadSI _ _ _ _ _ _ _ _ (Or.inr rfl) 12 _ _ q ((HWT1.out w hlow).1.cell (wordOf_at HO.out.1 HO.out.2))) ⟨_, rfl, Below.refl _ _, rfl⟩
    · exact wp_of_runL (run_fieldEv1 _ _ _ _ _ _ _ 1 N s1) ⟨_, rfl, Below.refl _ _, rfl⟩
    · have q : A'.eval (.tmp 14) = .pointer (some ⟨N, 1, none⟩) := hsee 14 (by decide) 4 rfl
      exact wp_of_runL (run_loadSI _ _ _ _ _ _ _ _ (Or.inl rfl) 14 _ _ q ((HWn.out w hlow).cell 1)) ⟨_, rfl, Below.refl _ _, rfl⟩
    · have q : A'.eval (.tmp 15) = .int .i64 x1 := hsee 15 (by decide) 5 rfl
      have hn : x1 = ((x1.toNat : Nat) : Int) := by have := HD.out.1; omega
      rw [hn] at q
      refine wp_of_callL _ _ _ _ _ _ _ 16 _ [.tmp 15] [.int .i64 (x1.toNat : Int)] (by simp [q]) rfl ?_
      refine (itoa_any x1.toNat (by have := HD.out.2; omega) w (HWT1.out w hlow).2).mono ?_
      rintro e w2 ⟨rfl, hb2⟩
      exact ⟨_, rfl, _, rfl, hb2, rfl⟩
    · exact wp_of_runL (run_fieldEv2 _ _ _ _ _ _ _ 1 N s1) ⟨_, rfl, Below.refl _ _, rfl⟩
    · have q : A'.eval (.tmp 17) = .pointer (some ⟨N, 2, none⟩) := hsee 17 (by decide) 7 rfl
      exact wp_of_runL (run_loadSI _ _ _ _ _ _ _ _ (Or.inr rfl) 17 _ _ q ((HWn.out w hlow).cell 2)) ⟨_, rfl, Below.refl _ _, rfl⟩
    · have q3 : A'.eval (.tmp 13) = .string ⟨(wordOf x0).toArray⟩ := hsee 13 (by decide) 3 rfl
      have q6 : A'.eval (.tmp 16) = .string ⟨(digs x1).toArray⟩ := hsee 16 (by decide) 6 rfl
      have q8 : A'.eval (.tmp 18) = .string x2 := hsee 18 (by decide) 8 rfl
      refine wp_of_runL (run_threeS _ _ _ _ _ _ _ 13 16 18 _ _ _ q3 q6 q8) ⟨_, rfl, (Below.refl _ _).alloc (Nat.le_refl _) _, ?_⟩
      refine ⟨rfl, Or.inr ⟨w.heap.size, 3, _, rfl, (below_step HB1.out hlow).size, Whole.new _ _ _, Nat.le_refl _, by unfold maxLen; omega, rfl, ?_⟩⟩
      simp [encStr, bts]
    · obtain ⟨v, hv⟩ : ∃ v, A'.eval (.tmp 19) = v := ⟨_, rfl⟩
      have q : OwnS W.heap.size w (A'.eval (.tmp 19)) [wordOf x0, digs x1, bts x2] := hsee 19 (by decide) 9 rfl
      exact wp_of_runL (run_assignL _ _ _ _ _ _ _ 19 _ rfl) ⟨_, rfl, Below.refl _ _, q⟩
  intro e w5 hlow hall
  obtain ⟨v0, e0, -⟩ := hall 0 (by decide)
  obtain ⟨v1, e1, -⟩ := hall 1 (by decide)
  obtain ⟨v2, e2, -⟩ := hall 2 (by decide)
  obtain ⟨v3, e3, -⟩ := hall 3 (by decide)
  obtain ⟨v4, e4, -⟩ := hall 4 (by decide)
  obtain ⟨v5, e5, -⟩ := hall 5 (by decide)
  obtain ⟨v6, e6, -⟩ := hall 6 (by decide)
  obtain ⟨v7, e7, -⟩ := hall 7 (by decide)
  obtain ⟨v8, e8, -⟩ := hall 8 (by decide)
  obtain ⟨v9, e9, -⟩ := hall 9 (by decide)
  obtain ⟨va, ea, ha⟩ := hall 10 (by decide)
  have HB5 := Lib.hid (below_step HB1.out hlow)
  have HO5 : Hid (OwnS W.heap.size w5 va [wordOf x0, digs x1, bts x2]) := Lib.hid ha
  have HW5 := Lib.hid (HWn.out w5 hlow)
  have c0 : w5.cell? ⟨N, 0, none⟩ = some (.int .i64 x0) := HW5.out.cell 0
  simp only [List.length_cons, List.length_nil, Nat.reduceAdd, fillTo, e0, e1, e2, e3, e4, e5, e6, e7, e8, e9, ea, dstOf]
  clear e0 e1 e2 e3 e4 e5 e6 e7 e8 e9 ea hlow hall ha
  go_simp
  have hcase : x0 = 1 ∨ x0 = 2 ∨ x0 = 3 ∨ x0 = 5 ∨ x0 = 7 := by have := HO.out; omega
  rcases hcase with rfl | rfl | h357
  · obtain ⟨g2, Hg2⟩ : ∃ g, Hid (g = w5.heap.size) := ⟨_, Lib.hid rfl⟩
    obtain ⟨w6, Hw6⟩ : ∃ w, Hid (w = w5.alloc (.cells #[.string x3] 9)) := ⟨_, Lib.hid rfl⟩
    have HB6 : Hid (Below W.heap.size W w6) := Lib.hid (by rw [Hw6.out]; exact below_alloc HB5.out _)
    have HO6 : Hid (OwnS W.heap.size w6 va [wordOf 1, digs x1, bts x2]) := Lib.hid (HO5.out.below (by rw [Hw6.out]; exact (Below.refl _ _).alloc (Nat.le_refl _) _))
    have HW6 : Hid (Whole w6 g2 9 #[.string x3]) := Lib.hid (by rw [Hw6.out, Hg2.out]; exact Whole.new _ _ _)
    have HNr : Hid (∀ (i : Nat) (u : Value), [Value.string x3][i]? = some u → w6.cell? ((⟨g2, 0, none⟩ : Addr).add i) = some u) := Lib.hid (by
      intro i u hu
      rw [ptr_add0, HW6.out.cell]
      simpa using hu)
    have hT3 : T = Lib.join [wordOf 1, digs x1, bts x2, bts x3] [32] := by rw [HTj.out.1]; simp
    have HJ : Hid (∀ w7 v', OwnS W.heap.size w7 v' [wordOf 1, digs x1, bts x2, bts x3] → _) := Lib.hid (fun w7 v' ho => join_own W.heap.size v' [wordOf 1, digs x1, bts x2, bts x3] (by simp) (by simp) w7 ho (by rw [← hT3]; exact HTj.out.2))
    rw [← hT3] at HJ
    have hw6 := Hw6.out
    have hg2 := Hg2.out
    have n3 : w5.cell? ⟨N, 3, none⟩ = some (.string x3) := HW5.out.cell 3
    clear hT3 h4 h6
    go_wp2_with (at_builtin; rw [← hw6, ← hg2]; refine wpList_append_own _ rfl _ _ 36 rfl W.heap.size 9 i1 _ 1 16 Tryz.underlying36 hi1 hy0 hy1 hy2 rfl (by decide) va 3 ([wordOf 1, digs x1, bts x2].map encStr) rfl HO6.out ⟨g2, 0, none⟩ 1 1 [Value.string x3] rfl rfl HNr.out (by simp [Value.oneCell']) (by unfold maxLen; omega) (by omega) HB6.out.size ?_; intro v' w7 hown hgrow _; refine Hid.out ?_)
    refine Lib.hid ?_
    clear hw6 hg2
    have HO7 : Hid (OwnS W.heap.size w7 v' [wordOf 1, digs x1, bts x2, bts x3]) := Lib.hid hown
    have HB7 : Hid (Below W.heap.size W w7) := Lib.hid (grown_below HO6.out rfl HB6.out hgrow)
    clear hown hgrow
    go_wp2_with fail
    refine (HJ.out w7 v' HO7.out).mono ?_
    rintro e w8 ⟨rfl, hb8⟩
    have HB8 := Lib.hid (below_step HB7.out hb8)
    clear hb8
    go_wp2_with fail
    go_ret2
    exact ⟨rfl, HB8.out⟩
  · obtain ⟨g2, Hg2⟩ : ∃ g, Hid (g = w5.heap.size) := ⟨_, Lib.hid rfl⟩
    obtain ⟨w6, Hw6⟩ : ∃ w, Hid (w = w5.alloc (.cells #[.string x4, .string x5] 9)) := ⟨_, Lib.hid rfl⟩
    have HB6 : Hid (Below W.heap.size W w6) := Lib.hid (by rw [Hw6.out]; exact below_alloc HB5.out _)
    have HO6 : Hid (OwnS W.heap.size w6 va [wordOf 2, digs x1, bts x2]) := Lib.hid (HO5.out.below (by rw [Hw6.out]; exact (Below.refl _ _).alloc (Nat.le_refl _) _))
    have HW6 : Hid (Whole w6 g2 9 #[.string x4, .string x5]) := Lib.hid (by rw [Hw6.out, Hg2.out]; exact Whole.new _ _ _)
    have HNr : Hid (∀ (i : Nat) (u : Value), [Value.string x4, Value.string x5][i]? = some u → w6.cell? ((⟨g2, 0, none⟩ : Addr).add i) = some u) := Lib.hid (by
      intro i u hu
      rw [ptr_add0, HW6.out.cell]
      simpa using hu)
    have hT3 : T = Lib.join [wordOf 2, digs x1, bts x2, bts x4, bts x5] [32] := by rw [HTj.out.1]; simp
    have HJ : Hid (∀ w7 v', OwnS W.heap.size w7 v' [wordOf 2, digs x1, bts x2, bts x4, bts x5] → _) := Lib.hid (fun w7 v' ho => join_own W.heap.size v' [wordOf 2, digs x1, bts x2, bts x4, bts x5] (by simp) (by simp) w7 ho (by rw [← hT3]; exact HTj.out.2))
    rw [← hT3] at HJ
    have hw6 := Hw6.out
    have hg2 := Hg2.out
    have n4 : w5.cell? ⟨N, 4, none⟩ = some (.string x4) := HW5.out.cell 4
    have n5 : w5.cell? ⟨N, 5, none⟩ = some (.string x5) := HW5.out.cell 5
    clear hT3 h4 h6
    go_wp2_with (at_builtin; rw [← hw6, ← hg2]; refine wpList_append_own _ rfl _ _ 36 rfl W.heap.size 9 i1 _ 1 16 Tryz.underlying36 hi1 hy0 hy1 hy2 rfl (by decide) va 3 ([wordOf 2, digs x1, bts x2].map encStr) rfl HO6.out ⟨g2, 0, none⟩ 2 2 [Value.string x4, Value.string x5] rfl rfl HNr.out (by simp [Value.oneCell']) (by unfold maxLen; omega) (by omega) HB6.out.size ?_; intro v' w7 hown hgrow _; refine Hid.out ?_)
    refine Lib.hid ?_
    clear hw6 hg2
    have HO7 : Hid (OwnS W.heap.size w7 v' [wordOf 2, digs x1, bts x2, bts x4, bts x5]) := Lib.hid hown
    have HB7 : Hid (Below W.heap.size W w7) := Lib.hid (grown_below HO6.out rfl HB6.out hgrow)
    clear hown hgrow
    go_wp2_with fail
    refine (HJ.out w7 v' HO7.out).mono ?_
    rintro e w8 ⟨rfl, hb8⟩
    have HB8 := Lib.hid (below_step HB7.out hb8)
    clear hb8
    go_wp2_with fail
    go_ret2
    exact ⟨rfl, HB8.out⟩
  · have HJ := Lib.hid (join_own W.heap.size va [wordOf x0, digs x1, bts x2] (by simp) (by simp) w5 HO5.out (by
      have h := HTj.out.2
      rw [HTj.out.1] at h
      rcases h357 with rfl | rfl | rfl <;> simpa using h))
    have hT3 : T = Lib.join [wordOf x0, digs x1, bts x2] [32] := by
      rw [HTj.out.1]
      rcases h357 with rfl | rfl | rfl <;> simp
    have n1 : (x0 == 1) = false := by rcases h357 with rfl | rfl | rfl <;> rfl
    have n2 : (x0 == 2) = false := by rcases h357 with rfl | rfl | rfl <;> rfl
    have n4 : (x0 == 4) = false := by rcases h357 with rfl | rfl | rfl <;> rfl
    have n6 : (x0 == 6) = false := by rcases h357 with rfl | rfl | rfl <;> rfl
    rw [← hT3] at HJ
    clear h357 hT3 h4 h6
    go_wp2_with fail
    refine HJ.out.mono ?_
    rintro e w6 ⟨rfl, hb6⟩
    have HB6 := Lib.hid (below_step HB5.out hb6)
    clear hb6
    go_wp2_with fail
    go_ret2
    exact ⟨rfl, HB6.out⟩
end Go.Proofs.YtbnofoncapaabaaGreatDoor
