/- event.Text: the walk. -/
import Derived.Test.YtfkejnnbfneieaaGreatDoorEvtTextM
import Derived.Test.YtfkejnnbfneieaaGreatDoorEvNames
import Derived.Test.YtfkejnnbfneieaaGreatDoorMonoG
import Derived.Test.YtfkejnnbfneieaaGreatDoorAppOwn
import Derived.Test.YtfkejnnbfneieaaGreatDoorLexQuote
namespace Go.Proofs.YtfkejnnbfneieaaGreatDoor
open Go.RowKit Go.Sort
open Evt

theorem join_own (B : Nat) (v : Value) (ss : List (List UInt8)) (hp : ss ≠ []) (hn : ss.length ≤ 1000000) (w : World) (h : OwnS B w v ss) (hl : (Lib.join ss [32]).length ≤ 140737488355328) :
    Calls Tryz.prog 48 #[v, .string ⟨#[32]⟩] w fun e w' => e = .returned (.string ⟨(Lib.join ss [32]).toArray⟩) ∧ Below w.heap.size w w' := by
  rcases h.2 with ⟨rfl, hnil⟩ | ⟨g, cap, cur, rfl, hbase, hb, h1, h2, h3, h4⟩
  · exact absurd (List.eq_nil_of_length_eq_zero hnil) hp
  · have hlt : g < w.heap.size := (Array.getElem?_eq_some_iff.1 hb).1
    obtain ⟨xs, HX⟩ : ∃ xs : List ByteArray, xs = ss.map fun s => (⟨s.toArray⟩ : ByteArray) := ⟨_, rfl⟩
    have e1 : xs.map (·.data.toList) = ss := by rw [HX, List.map_map]; simp [Function.comp_def]
    have e2 : xs.length = ss.length := by rw [HX, List.length_map]
    have hcell : ∀ (j : Nat) x, xs[j]? = some x → w.cell? ⟨g, 0 + j, none⟩ = some (.string x) := by
      intro j x hj
      rw [Nat.zero_add, (show Whole w g 9 cur from hb).cell j]
      rw [HX, List.getElem?_map, Option.map_eq_some_iff] at hj
      obtain ⟨s, hs, rfl⟩ := hj
      have hq : (cur.toList.take (ss.length * 1))[j]? = (ss.map encStr)[j]? := by rw [h4]
      have hjl := (List.getElem?_eq_some_iff.1 hs).1
      rw [List.getElem?_take, if_pos (by omega), List.getElem?_map, hs] at hq
      simpa using hq
    have := Tryz.strings_Join g 0 cap xs ⟨#[32]⟩ w hcell hlt (by omega) (by omega) (by rw [e1]; exact hl)
    rw [e1, e2] at this
    exact this

section
variable (d : Option Tmp) (t : TypeId) (pos : String) (af : Array Edge) (g : Option (Nat × Bool)) (A : Act) (w : World)
theorem run_fieldEv0 (x : Tmp) (b : Nat) (hx : A.eval (.tmp x) = .pointer (some ⟨b, 0, none⟩)) :
    (execOp A.eval ⟨d, .fieldAddr 50 (.tmp x) 0, t, pos, af, g⟩).run Tryz.prog w = .ok (.value (.pointer (some ⟨b, 0, none⟩))) w := by
  unfold execOp
  simp only [hx]
  go_simp
theorem run_fieldEv1 (x : Tmp) (b : Nat) (hx : A.eval (.tmp x) = .pointer (some ⟨b, 0, none⟩)) :
    (execOp A.eval ⟨d, .fieldAddr 50 (.tmp x) 1, t, pos, af, g⟩).run Tryz.prog w = .ok (.value (.pointer (some ⟨b, 1, none⟩))) w := by
  unfold execOp
  simp only [hx]
  go_simp
theorem run_fieldEv2 (x : Tmp) (b : Nat) (hx : A.eval (.tmp x) = .pointer (some ⟨b, 0, none⟩)) :
    (execOp A.eval ⟨d, .fieldAddr 50 (.tmp x) 2, t, pos, af, g⟩).run Tryz.prog w = .ok (.value (.pointer (some ⟨b, 2, none⟩))) w := by
  unfold execOp
  simp only [hx]
  go_simp
theorem run_loadSI (T : TypeId) (hT : T = 3 ∨ T = 9) (x : Tmp) (p : Addr) (v : Value) (hx : A.eval (.tmp x) = .pointer (some p)) (hc : w.cell? p = some v) :
    (execOp A.eval ⟨d, .load T (.tmp x), t, pos, af, g⟩).run Tryz.prog w = .ok (.value v) w := by
  unfold execOp
  rcases hT with rfl | rfl <;> simp only [hx] <;> go_simp
theorem run_indexW (y : Tmp) (z : Int) (h1 : 1 ≤ z) (h2 : z ≤ 7) (hy : A.eval (.tmp y) = .int .i64 z) :
    (execOp A.eval ⟨d, .indexAddr 78 (.global 0) (.tmp y), t, pos, af, g⟩).run Tryz.prog w = .ok (.value (.pointer (some ⟨0, z.toNat, none⟩))) w := by
  have h0 : (0 : Int) ≤ z := by omega
  have h3 : z < 8 := by omega
  unfold execOp
  simp only [hy]
  go_simp
theorem run_threeS (x y z : Tmp) (a b c : ByteArray) (hx : A.eval (.tmp x) = .string a) (hy : A.eval (.tmp y) = .string b) (hz : A.eval (.tmp z) = .string c) :
    (execOp A.eval ⟨d, .buildSlice 41 3 #[(0, .tmp x), (1, .tmp y), (2, .tmp z)], t, pos, af, g⟩).run Tryz.prog w = .ok (.value (.slice (some ⟨w.heap.size, 0, none⟩) 3 3)) (w.alloc (.cells #[.string a, .string b, .string c] 9)) := by
  unfold execOp
  simp only [hx, hy, hz, List.map_toArray, List.map_cons, List.map_nil]
  go_simp
end

def etP (N B : Nat) (x0 x1 : Int) (x2 : ByteArray) : Nat → Value → World → Prop
  | 0, v, _ => v = .pointer (some ⟨N, 0, none⟩)
  | 1, v, _ => v = .int .i64 x0
  | 2, v, _ => v = .pointer (some ⟨0, x0.toNat, none⟩)
  | 3, v, _ => v = .string ⟨(wordOf x0).toArray⟩
  | 4, v, _ => v = .pointer (some ⟨N, 1, none⟩)
  | 5, v, _ => v = .int .i64 x1
  | 6, v, _ => v = .string ⟨(digs x1).toArray⟩
  | 7, v, _ => v = .pointer (some ⟨N, 2, none⟩)
  | 8, v, _ => v = .string x2
  | 9, v, w => OwnS B w v [wordOf x0, digs x1, bts x2]
  | 10, v, w => OwnS B w v [wordOf x0, digs x1, bts x2]
  | _, _, _ => True
theorem etP_below {N B : Nat} {x0 x1 : Int} {x2 : ByteArray} : ∀ j u w w', etP N B x0 x1 x2 j u w → Below w.heap.size w w' → etP N B x0 x1 x2 j u w'
  | 0, _, _, _, h, _ => h
  | 1, _, _, _, h, _ => h
  | 2, _, _, _, h, _ => h
  | 3, _, _, _, h, _ => h
  | 4, _, _, _, h, _ => h
  | 5, _, _, _, h, _ => h
  | 6, _, _, _, h, _ => h
  | 7, _, _, _, h, _ => h
  | 8, _, _, _, h, _ => h
  | 9, _, _, _, h, hb => OwnS.below h hb
  | 10, _, _, _, h, hb => OwnS.below h hb
  | _ + 11, _, _, _, _, _ => trivial

set_option maxRecDepth 100000 in
set_option maxHeartbeats 8000000 in
theorem evText_bad (x : Ev) (hx : Sz x) (hv : Evt.valid x = false) (W : World) :
    Calls Tryz.prog 28 #[.agg (evC x).toArray] W fun e w' => e = .returned (.tuple #[.string ⟨#[]⟩, .int .i64 1]) ∧ Below W.heap.size W w' := by
  obtain ⟨V, HV⟩ : ∃ w, Hid (w = W.alloc (.cells (evC x).toArray 50)) := ⟨_, Lib.hid rfl⟩
  obtain ⟨N, HN⟩ : ∃ N, Hid (N = W.heap.size) := ⟨_, Lib.hid rfl⟩
  have HB : Hid (Below W.heap.size W V) := Lib.hid (by rw [HV.out]; exact (Below.refl _ _).alloc (Nat.le_refl _) _)
  have HC := Lib.hid (evValid_any x hx V)
  rw [hv] at HC
  have HSp := Lib.hid ev_size
  clear hx hv
  obtain ⟨x0, x1, x2, x3, x4, x5, x6, x7, x8, x9, xa, xb, xc, xd⟩ := x
  unfold evC at HV HC ⊢
  go_enter Tryz.func28, Tryz.ntmps28
  go_wp2_with fail
  rw [← HV.out, ← HN.out]
  refine HC.out.mono ?_
  rintro e w1 ⟨rfl, hb⟩
  have HB1 := Lib.hid (below_step HB.out hb)
  clear hb
  go_wp2_with fail
  go_ret2
  exact ⟨rfl, HB1.out⟩

set_option maxRecDepth 100000 in
set_option maxHeartbeats 8000000 in
theorem evText_good (x : Ev) (hx : Sz x) (hv : Evt.valid x = true) (h4 : x.op ≠ 4) (h6 : x.op ≠ 6) (hl : (textE x).length ≤ 140737488355328) (W : World) (hT : WTab W) (ht : Tab W) :
    Calls Tryz.prog 28 #[.agg (evC x).toArray] W fun e w' => e = .returned (.tuple #[.string ⟨(textE x).toArray⟩, .int .i64 0]) ∧ Below W.heap.size W w' := by
  obtain ⟨i1, hi1, hy0, hy1, hy2⟩ := infoP info_strE
  obtain ⟨o1, o2, d1, d2, -, -⟩ := valid_op hv
  obtain ⟨V, HV⟩ : ∃ w, Hid (w = W.alloc (.cells (evC x).toArray 50)) := ⟨_, Lib.hid rfl⟩
  obtain ⟨N, HN⟩ : ∃ N, Hid (N = W.heap.size) := ⟨_, Lib.hid rfl⟩
  have HB : Hid (Below W.heap.size W V) := Lib.hid (by rw [HV.out]; exact (Below.refl _ _).alloc (Nat.le_refl _) _)
  have HW : Hid (Whole V N 50 (evC x).toArray) := Lib.hid (by rw [HV.out, HN.out]; exact Whole.new _ _ _)
  have HC := Lib.hid (evValid_any x hx V)
  rw [hv] at HC
  have HSp := Lib.hid ev_size
  have HT := Lib.hid hT
  have HTb := Lib.hid ht
  obtain ⟨T, HTx⟩ : ∃ T, Hid (T = textE x) := ⟨_, Lib.hid rfl⟩
  have HTj : Hid (T = Lib.join ([wordOf x.op, digs x.day, bts x.part] ++
    (if x.op = 1 then [bts x.kind] else if x.op = 2 then [bts x.into, bts x.slot]
     else if x.op = 4 then [digs x.k0, digs x.k1, digs x.c0, digs x.c1, digs x.d0, digs x.d1]
     else if x.op = 6 then [bts x.key, Lex.quote x.value.data.toList] else [])) [32] ∧ T.length ≤ 140737488355328) := Lib.hid ⟨by rw [HTx.out]; rfl, by rw [HTx.out]; exact hl⟩
  rw [← HTx.out]
  clear hx hv hl hT ht HTx
  obtain ⟨x0, x1, x2, x3, x4, x5, x6, x7, x8, x9, xa, xb, xc, xd⟩ := x
  dsimp only at HTj h4 h6 o1 o2 d1 d2
  unfold evC at HV HC HW ⊢
  go_enter Tryz.func28, Tryz.ntmps28
  go_wp2_with fail
  rw [← HV.out, ← HN.out]
  refine HC.out.mono ?_
  rintro e w1 ⟨rfl, hb⟩
  have HB1 := Lib.hid (below_step HB.out hb)
  have HW1 := Lib.hid (whole_belowM HW.out hb)
  clear hb
  have HWT1 : Hid (∀ w, Below w1.heap.size w1 w → WTab w ∧ Tab w) := Lib.hid fun w hw => ⟨HT.out.below (below_step HB1.out hw), HTb.out.below (below_step HB1.out hw)⟩
  have HWn : Hid (∀ w, Below w1.heap.size w1 w → Whole w N 50 _) := Lib.hid fun w hw => whole_belowM HW1.out hw
  have HO := Lib.hid (And.intro o1 o2)
  have HD := Lib.hid (And.intro d1 d2)
  clear o1 o2 d1 d2
  go_wp2_with fail
  apply wp_region_monoL 77 (etP N W.heap.size x0 x1 x2) etP_below (by kernel_rfl) (by kernel_rfl) rfl
  · intro i o ho w A' hlow hsee haway
    have s1 : A'.eval (.tmp 1) = .pointer (some ⟨N, 0, none⟩) := (haway 1 (by kernel_rfl)).trans rfl
    have hi : i < 11 := by have := (List.getElem?_eq_some_iff.1 ho).1; simpa using this
    have hi : i = 0 ∨ i = 1 ∨ i = 2 ∨ i = 3 ∨ i = 4 ∨ i = 5 ∨ i = 6 ∨ i = 7 ∨ i = 8 ∨ i = 9 ∨ i = 10 := by omega
    rcases hi with rfl | rfl | rfl | rfl | rfl | rfl | rfl | rfl | rfl | rfl | rfl
    all_goals
      simp only [List.getElem?_cons_succ, List.getElem?_cons_zero, Option.some.injEq] at ho
      subst ho
    · exact wp_of_runL (run_fieldEv0 _ _ _ _ _ _ _ 1 N s1) ⟨_, rfl, Below.refl _ _, rfl⟩
    · have q : A'.eval (.tmp 10) = .pointer (some ⟨N, 0, none⟩) := hsee 10 (by decide) 0 rfl
      exact wp_of_runL (run_loadSI _ _ _ _ _ _ _ _ (Or.inl rfl) 10 _ _ q ((HWn.out w hlow).cell 0)) ⟨_, rfl, Below.refl _ _, rfl⟩
    · have q : A'.eval (.tmp 11) = .int .i64 x0 := hsee 11 (by decide) 1 rfl
      exact wp_of_runL (run_indexW _ _ _ _ _ _ _ 11 x0 HO.out.1 HO.out.2 q) ⟨_, rfl, Below.refl _ _, rfl⟩
    · have q : A'.eval (.tmp 12) = .pointer (some ⟨0, x0.toNat, none⟩) := hsee 12 (by decide) 2 rfl
      exact wp_of_runL (run_loadSI _ _ _ _ _ _ _ _ (Or.inr rfl) 12 _ _ q ((HWT1.out w hlow).1.cell (wordOf_at HO.out.1 HO.out.2))) ⟨_, rfl, Below.refl _ _, rfl⟩
    · exact wp_of_runL (run_fieldEv1 _ _ _ _ _ _ _ 1 N s1) ⟨_, rfl, Below.refl _ _, rfl⟩
    · have q : A'.eval (.tmp 14) = .pointer (some ⟨N, 1, none⟩) := hsee 14 (by decide) 4 rfl
      exact wp_of_runL (run_loadSI _ _ _ _ _ _ _ _ (Or.inl rfl) 14 _ _ q ((HWn.out w hlow).cell 1)) ⟨_, rfl, Below.refl _ _, rfl⟩
    · have q : A'.eval (.tmp 15) = .int .i64 x1 := hsee 15 (by decide) 5 rfl
      have hn : x1 = ((x1.toNat : Nat) : Int) := by have := HD.out.1; omega
      rw [hn] at q
      refine wp_of_callL _ _ _ _ _ _ _ 46 _ [.tmp 15] [.int .i64 (x1.toNat : Int)] (by simp [q]) rfl ?_
      refine (itoa_any x1.toNat (by have := HD.out.2; omega) w (HWT1.out w hlow).2).mono ?_
      rintro e w2 ⟨rfl, hb2⟩
      exact ⟨_, rfl, _, rfl, hb2, rfl⟩
    · exact wp_of_runL (run_fieldEv2 _ _ _ _ _ _ _ 1 N s1) ⟨_, rfl, Below.refl _ _, rfl⟩
    · have q : A'.eval (.tmp 17) = .pointer (some ⟨N, 2, none⟩) := hsee 17 (by decide) 7 rfl
      exact wp_of_runL (run_loadSI _ _ _ _ _ _ _ _ (Or.inr rfl) 17 _ _ q ((HWn.out w hlow).cell 2)) ⟨_, rfl, Below.refl _ _, rfl⟩
    · have q3 : A'.eval (.tmp 13) = .string ⟨(wordOf x0).toArray⟩ := hsee 13 (by decide) 3 rfl
      have q6 : A'.eval (.tmp 16) = .string ⟨(digs x1).toArray⟩ := hsee 16 (by decide) 6 rfl
      have q8 : A'.eval (.tmp 18) = .string x2 := hsee 18 (by decide) 8 rfl
      refine wp_of_runL (run_threeS _ _ _ _ _ _ _ 13 16 18 _ _ _ q3 q6 q8) ⟨_, rfl, (Below.refl _ _).alloc (Nat.le_refl _) _, ?_⟩
      refine ⟨rfl, Or.inr ⟨w.heap.size, 3, _, rfl, (below_step HB1.out hlow).size, Whole.new _ _ _, Nat.le_refl _, by unfold maxLen; omega, rfl, ?_⟩⟩
      simp [encStr, bts]
    · obtain ⟨v, hv⟩ : ∃ v, A'.eval (.tmp 19) = v := ⟨_, rfl⟩
      have q : OwnS W.heap.size w (A'.eval (.tmp 19)) [wordOf x0, digs x1, bts x2] := hsee 19 (by decide) 9 rfl
      exact wp_of_runL (run_assignL _ _ _ _ _ _ _ 19 _ rfl) ⟨_, rfl, Below.refl _ _, q⟩
  intro e w5 hlow hall
  obtain ⟨v0, e0, -⟩ := hall 0 (by decide)
  obtain ⟨v1, e1, -⟩ := hall 1 (by decide)
  obtain ⟨v2, e2, -⟩ := hall 2 (by decide)
  obtain ⟨v3, e3, -⟩ := hall 3 (by decide)
  obtain ⟨v4, e4, -⟩ := hall 4 (by decide)
  obtain ⟨v5, e5, -⟩ := hall 5 (by decide)
  obtain ⟨v6, e6, -⟩ := hall 6 (by decide)
  obtain ⟨v7, e7, -⟩ := hall 7 (by decide)
  obtain ⟨v8, e8, -⟩ := hall 8 (by decide)
  obtain ⟨v9, e9, -⟩ := hall 9 (by decide)
  obtain ⟨va, ea, ha⟩ := hall 10 (by decide)
  have HB5 := Lib.hid (below_step HB1.out hlow)
  have HO5 : Hid (OwnS W.heap.size w5 va [wordOf x0, digs x1, bts x2]) := Lib.hid ha
  have HW5 := Lib.hid (HWn.out w5 hlow)
  have c0 : w5.cell? ⟨N, 0, none⟩ = some (.int .i64 x0) := HW5.out.cell 0
  simp only [List.length_cons, List.length_nil, Nat.reduceAdd, fillTo, e0, e1, e2, e3, e4, e5, e6, e7, e8, e9, ea, dstOf]
  clear e0 e1 e2 e3 e4 e5 e6 e7 e8 e9 ea hlow hall ha
  go_simp
  have hcase : x0 = 1 ∨ x0 = 2 ∨ x0 = 3 ∨ x0 = 5 ∨ x0 = 7 := by have := HO.out; omega
  rcases hcase with rfl | rfl | h357
  · obtain ⟨g2, Hg2⟩ : ∃ g, Hid (g = w5.heap.size) := ⟨_, Lib.hid rfl⟩
    obtain ⟨w6, Hw6⟩ : ∃ w, Hid (w = w5.alloc (.cells #[.string x3] 9)) := ⟨_, Lib.hid rfl⟩
    have HB6 : Hid (Below W.heap.size W w6) := Lib.hid (by rw [Hw6.out]; exact below_alloc HB5.out _)
    have HO6 : Hid (OwnS W.heap.size w6 va [wordOf 1, digs x1, bts x2]) := Lib.hid (HO5.out.below (by rw [Hw6.out]; exact (Below.refl _ _).alloc (Nat.le_refl _) _))
    have HW6 : Hid (Whole w6 g2 9 #[.string x3]) := Lib.hid (by rw [Hw6.out, Hg2.out]; exact Whole.new _ _ _)
    have HNr : Hid (∀ (i : Nat) (u : Value), [Value.string x3][i]? = some u → w6.cell? ((⟨g2, 0, none⟩ : Addr).add i) = some u) := Lib.hid (by
      intro i u hu
      rw [ptr_add0, HW6.out.cell]
      simpa using hu)
    have hT3 : T = Lib.join [wordOf 1, digs x1, bts x2, bts x3] [32] := by rw [HTj.out.1]; simp
    have HJ : Hid (∀ w7 v', OwnS W.heap.size w7 v' [wordOf 1, digs x1, bts x2, bts x3] → _) := Lib.hid (fun w7 v' ho => join_own W.heap.size v' [wordOf 1, digs x1, bts x2, bts x3] (by simp) (by simp) w7 ho (by rw [← hT3]; exact HTj.out.2))
    rw [← hT3] at HJ
    have hw6 := Hw6.out
    have hg2 := Hg2.out
    have n3 : w5.cell? ⟨N, 3, none⟩ = some (.string x3) := HW5.out.cell 3
    clear hT3 h4 h6
    go_wp2_with (at_builtin; rw [← hw6, ← hg2]; refine wpList_append_own _ rfl _ _ 41 rfl W.heap.size 9 i1 _ 1 16 Tryz.underlying41 hi1 hy0 hy1 hy2 rfl (by decide) va 3 ([wordOf 1, digs x1, bts x2].map encStr) rfl HO6.out ⟨g2, 0, none⟩ 1 1 [Value.string x3] rfl rfl HNr.out (by simp [Value.oneCell']) (by unfold maxLen; omega) (by omega) HB6.out.size ?_; intro v' w7 hown hgrow _; refine Hid.out ?_)
    refine Lib.hid ?_
    clear hw6 hg2
    have HO7 : Hid (OwnS W.heap.size w7 v' [wordOf 1, digs x1, bts x2, bts x3]) := Lib.hid hown
    have HB7 : Hid (Below W.heap.size W w7) := Lib.hid (grown_below HO6.out rfl HB6.out hgrow)
    clear hown hgrow
    go_wp2_with fail
    refine (HJ.out w7 v' HO7.out).mono ?_
    rintro e w8 ⟨rfl, hb8⟩
    have HB8 := Lib.hid (below_step HB7.out hb8)
    clear hb8
    go_wp2_with fail
    go_ret2
    exact ⟨rfl, HB8.out⟩
  · obtain ⟨g2, Hg2⟩ : ∃ g, Hid (g = w5.heap.size) := ⟨_, Lib.hid rfl⟩
    obtain ⟨w6, Hw6⟩ : ∃ w, Hid (w = w5.alloc (.cells #[.string x4, .string x5] 9)) := ⟨_, Lib.hid rfl⟩
    have HB6 : Hid (Below W.heap.size W w6) := Lib.hid (by rw [Hw6.out]; exact below_alloc HB5.out _)
    have HO6 : Hid (OwnS W.heap.size w6 va [wordOf 2, digs x1, bts x2]) := Lib.hid (HO5.out.below (by rw [Hw6.out]; exact (Below.refl _ _).alloc (Nat.le_refl _) _))
    have HW6 : Hid (Whole w6 g2 9 #[.string x4, .string x5]) := Lib.hid (by rw [Hw6.out, Hg2.out]; exact Whole.new _ _ _)
    have HNr : Hid (∀ (i : Nat) (u : Value), [Value.string x4, Value.string x5][i]? = some u → w6.cell? ((⟨g2, 0, none⟩ : Addr).add i) = some u) := Lib.hid (by
      intro i u hu
      rw [ptr_add0, HW6.out.cell]
      simpa using hu)
    have hT3 : T = Lib.join [wordOf 2, digs x1, bts x2, bts x4, bts x5] [32] := by rw [HTj.out.1]; simp
    have HJ : Hid (∀ w7 v', OwnS W.heap.size w7 v' [wordOf 2, digs x1, bts x2, bts x4, bts x5] → _) := Lib.hid (fun w7 v' ho => join_own W.heap.size v' [wordOf 2, digs x1, bts x2, bts x4, bts x5] (by simp) (by simp) w7 ho (by rw [← hT3]; exact HTj.out.2))
    rw [← hT3] at HJ
    have hw6 := Hw6.out
    have hg2 := Hg2.out
    have n4 : w5.cell? ⟨N, 4, none⟩ = some (.string x4) := HW5.out.cell 4
    have n5 : w5.cell? ⟨N, 5, none⟩ = some (.string x5) := HW5.out.cell 5
    clear hT3 h4 h6
    go_wp2_with (at_builtin; rw [← hw6, ← hg2]; refine wpList_append_own _ rfl _ _ 41 rfl W.heap.size 9 i1 _ 1 16 Tryz.underlying41 hi1 hy0 hy1 hy2 rfl (by decide) va 3 ([wordOf 2, digs x1, bts x2].map encStr) rfl HO6.out ⟨g2, 0, none⟩ 2 2 [Value.string x4, Value.string x5] rfl rfl HNr.out (by simp [Value.oneCell']) (by unfold maxLen; omega) (by omega) HB6.out.size ?_; intro v' w7 hown hgrow _; refine Hid.out ?_)
    refine Lib.hid ?_
    clear hw6 hg2
    have HO7 : Hid (OwnS W.heap.size w7 v' [wordOf 2, digs x1, bts x2, bts x4, bts x5]) := Lib.hid hown
    have HB7 : Hid (Below W.heap.size W w7) := Lib.hid (grown_below HO6.out rfl HB6.out hgrow)
    clear hown hgrow
    go_wp2_with fail
    refine (HJ.out w7 v' HO7.out).mono ?_
    rintro e w8 ⟨rfl, hb8⟩
    have HB8 := Lib.hid (below_step HB7.out hb8)
    clear hb8
    go_wp2_with fail
    go_ret2
    exact ⟨rfl, HB8.out⟩
  · have HJ := Lib.hid (join_own W.heap.size va [wordOf x0, digs x1, bts x2] (by simp) (by simp) w5 HO5.out (by
      have h := HTj.out.2
      rw [HTj.out.1] at h
      rcases h357 with rfl | rfl | rfl <;> simpa using h))
    have hT3 : T = Lib.join [wordOf x0, digs x1, bts x2] [32] := by
      rw [HTj.out.1]
      rcases h357 with rfl | rfl | rfl <;> simp
    have n1 : (x0 == 1) = false := by rcases h357 with rfl | rfl | rfl <;> rfl
    have n2 : (x0 == 2) = false := by rcases h357 with rfl | rfl | rfl <;> rfl
    have n4 : (x0 == 4) = false := by rcases h357 with rfl | rfl | rfl <;> rfl
    have n6 : (x0 == 6) = false := by rcases h357 with rfl | rfl | rfl <;> rfl
    rw [← hT3] at HJ
    clear h357 hT3 h4 h6
    go_wp2_with fail
    refine HJ.out.mono ?_
    rintro e w6 ⟨rfl, hb6⟩
    have HB6 := Lib.hid (below_step HB5.out hb6)
    clear hb6
    go_wp2_with fail
    go_ret2
    exact ⟨rfl, HB6.out⟩
end Go.Proofs.YtfkejnnbfneieaaGreatDoor

/- event.Text at a note, and at a run. -/
namespace Go.Proofs.YtfkejnnbfneieaaGreatDoor
open Go.RowKit Go.Sort
open Evt

def etnV (N : Nat) (x6 x7 : ByteArray) (lv : Value) : Nat → Value → Prop
  | 0, v => v = lv
  | 1, v => v = .pointer (some ⟨N, 6, none⟩)
  | 2, v => v = .string x6
  | 3, v => v = .pointer (some ⟨N, 7, none⟩)
  | 4, v => v = .string x7
  | 5, v => v = .string ⟨(Lex.quote x7.data.toList).toArray⟩
  | _, _ => True
set_option maxRecDepth 100000 in
set_option maxHeartbeats 8000000 in
theorem evText_note (x : Ev) (hx : Sz x) (hv : Evt.valid x = true) (h6 : x.op = 6) (W : World) (hT : WTab W) (ht : Tab W) :
    Calls Tryz.prog 28 #[.agg (evC x).toArray] W fun e w' => e = .returned (.tuple #[.string ⟨(textE x).toArray⟩, .int .i64 0]) ∧ Below W.heap.size W w' := by
  obtain ⟨i1, hi1, hy0, hy1, hy2⟩ := infoP info_strE
  obtain ⟨o1, o2, d1, d2, -, -⟩ := valid_op hv
  obtain ⟨-, -, hv200⟩ := ok6 hv h6
  have hl := textE_len hv
  obtain ⟨V, HV⟩ : ∃ w, Hid (w = W.alloc (.cells (evC x).toArray 50)) := ⟨_, Lib.hid rfl⟩
  obtain ⟨N, HN⟩ : ∃ N, Hid (N = W.heap.size) := ⟨_, Lib.hid rfl⟩
  have HB : Hid (Below W.heap.size W V) := Lib.hid (by rw [HV.out]; exact (Below.refl _ _).alloc (Nat.le_refl _) _)
  have HW : Hid (Whole V N 50 (evC x).toArray) := Lib.hid (by rw [HV.out, HN.out]; exact Whole.new _ _ _)
  have HC := Lib.hid (evValid_any x hx V)
  rw [hv] at HC
  have HSp := Lib.hid ev_size
  have HT := Lib.hid hT
  have HTb := Lib.hid ht
  obtain ⟨T, HTx⟩ : ∃ T, Hid (T = textE x) := ⟨_, Lib.hid rfl⟩
  have HTj : Hid (T = Lib.join ([wordOf x.op, digs x.day, bts x.part] ++
    (if x.op = 1 then [bts x.kind] else if x.op = 2 then [bts x.into, bts x.slot]
     else if x.op = 4 then [digs x.k0, digs x.k1, digs x.c0, digs x.c1, digs x.d0, digs x.d1]
     else if x.op = 6 then [bts x.key, Lex.quote x.value.data.toList] else [])) [32] ∧ T.length ≤ 140737488355328) := Lib.hid ⟨by rw [HTx.out]; rfl, by rw [HTx.out]; omega⟩
  rw [← HTx.out]
  clear hx hv hl hT ht HTx
  obtain ⟨x0, x1, x2, x3, x4, x5, x6, x7, x8, x9, xa, xb, xc, xd⟩ := x
  dsimp only at HTj h6 o1 o2 d1 d2 hv200
  subst h6
  unfold evC at HV HC HW ⊢
  go_enter Tryz.func28, Tryz.ntmps28
  go_wp2_with fail
  rw [← HV.out, ← HN.out]
  refine HC.out.mono ?_
  rintro e w1 ⟨rfl, hb⟩
  have HB1 := Lib.hid (below_step HB.out hb)
  have HW1 := Lib.hid (whole_belowM HW.out hb)
  clear hb
  have HWT1 : Hid (∀ w, Below w1.heap.size w1 w → WTab w ∧ Tab w) := Lib.hid fun w hw => ⟨HT.out.below (below_step HB1.out hw), HTb.out.below (below_step HB1.out hw)⟩
  have HWn : Hid (∀ w, Below w1.heap.size w1 w → Whole w N 50 _) := Lib.hid fun w hw => whole_belowM HW1.out hw
  have HO := Lib.hid (And.intro o1 o2)
  have HD := Lib.hid (And.intro d1 d2)
  clear o1 o2 d1 d2
  go_wp2_with fail
  apply wp_region_monoL 77 (etP N W.heap.size 6 x1 x2) etP_below (by kernel_rfl) (by kernel_rfl) rfl
  · intro i o ho w A' hlow hsee haway
    have s1 : A'.eval (.tmp 1) = .pointer (some ⟨N, 0, none⟩) := (haway 1 (by kernel_rfl)).trans rfl
    have hi : i < 11 := by have := (List.getElem?_eq_some_iff.1 ho).1; simpa using this
    have hi : i = 0 ∨ i = 1 ∨ i = 2 ∨ i = 3 ∨ i = 4 ∨ i = 5 ∨ i = 6 ∨ i = 7 ∨ i = 8 ∨ i = 9 ∨ i = 10 := by omega
    rcases hi with rfl | rfl | rfl | rfl | rfl | rfl | rfl | rfl | rfl | rfl | rfl
    all_goals
      simp only [List.getElem?_cons_succ, List.getElem?_cons_zero, Option.some.injEq] at ho
      subst ho
    · exact wp_of_runL (run_fieldEv0 _ _ _ _ _ _ _ 1 N s1) ⟨_, rfl, Below.refl _ _, rfl⟩
    · have q : A'.eval (.tmp 10) = .pointer (some ⟨N, 0, none⟩) := hsee 10 (by decide) 0 rfl
      exact wp_of_runL (run_loadSI _ _ _ _ _ _ _ _ (Or.inl rfl) 10 _ _ q ((HWn.out w hlow).cell 0)) ⟨_, rfl, Below.refl _ _, rfl⟩
    · have q : A'.eval (.tmp 11) = .int .i64 6 := hsee 11 (by decide) 1 rfl
      exact wp_of_runL (run_indexW _ _ _ _ _ _ _ 11 6 HO.out.1 HO.out.2 q) ⟨_, rfl, Below.refl _ _, rfl⟩
    · have q : A'.eval (.tmp 12) = .pointer (some ⟨0, (6 : Int).toNat, none⟩) := hsee 12 (by decide) 2 rfl
      exact wp_of_runL (run_loadSI _ _ _ _ _ _ _ _ (Or.inr rfl) 12 _ _ q ((HWT1.out w hlow).1.cell (wordOf_at HO.out.1 HO.out.2))) ⟨_, rfl, Below.refl _ _, rfl⟩
    · exact wp_of_runL (run_fieldEv1 _ _ _ _ _ _ _ 1 N s1) ⟨_, rfl, Below.refl _ _, rfl⟩
    · have q : A'.eval (.tmp 14) = .pointer (some ⟨N, 1, none⟩) := hsee 14 (by decide) 4 rfl
      exact wp_of_runL (run_loadSI _ _ _ _ _ _ _ _ (Or.inl rfl) 14 _ _ q ((HWn.out w hlow).cell 1)) ⟨_, rfl, Below.refl _ _, rfl⟩
    · have q : A'.eval (.tmp 15) = .int .i64 x1 := hsee 15 (by decide) 5 rfl
      have hn : x1 = ((x1.toNat : Nat) : Int) := by have := HD.out.1; omega
      rw [hn] at q
      refine wp_of_callL _ _ _ _ _ _ _ 46 _ [.tmp 15] [.int .i64 (x1.toNat : Int)] (by simp [q]) rfl ?_
      refine (itoa_any x1.toNat (by have := HD.out.2; omega) w (HWT1.out w hlow).2).mono ?_
      rintro e w2 ⟨rfl, hb2⟩
      exact ⟨_, rfl, _, rfl, hb2, rfl⟩
    · exact wp_of_runL (run_fieldEv2 _ _ _ _ _ _ _ 1 N s1) ⟨_, rfl, Below.refl _ _, rfl⟩
    · have q : A'.eval (.tmp 17) = .pointer (some ⟨N, 2, none⟩) := hsee 17 (by decide) 7 rfl
      exact wp_of_runL (run_loadSI _ _ _ _ _ _ _ _ (Or.inr rfl) 17 _ _ q ((HWn.out w hlow).cell 2)) ⟨_, rfl, Below.refl _ _, rfl⟩
    · have q3 : A'.eval (.tmp 13) = .string ⟨(wordOf 6).toArray⟩ := hsee 13 (by decide) 3 rfl
      have q6 : A'.eval (.tmp 16) = .string ⟨(digs x1).toArray⟩ := hsee 16 (by decide) 6 rfl
      have q8 : A'.eval (.tmp 18) = .string x2 := hsee 18 (by decide) 8 rfl
      refine wp_of_runL (run_threeS _ _ _ _ _ _ _ 13 16 18 _ _ _ q3 q6 q8) ⟨_, rfl, (Below.refl _ _).alloc (Nat.le_refl _) _, ?_⟩
      refine ⟨rfl, Or.inr ⟨w.heap.size, 3, _, rfl, (below_step HB1.out hlow).size, Whole.new _ _ _, Nat.le_refl _, by unfold maxLen; omega, rfl, ?_⟩⟩
      simp [encStr, bts]
    · obtain ⟨v, hv⟩ : ∃ v, A'.eval (.tmp 19) = v := ⟨_, rfl⟩
      have q : OwnS W.heap.size w (A'.eval (.tmp 19)) [wordOf 6, digs x1, bts x2] := hsee 19 (by decide) 9 rfl
      exact wp_of_runL (run_assignL _ _ _ _ _ _ _ 19 _ rfl) ⟨_, rfl, Below.refl _ _, q⟩
  intro e w5 hlow hall
  obtain ⟨v0, e0, -⟩ := hall 0 (by decide)
  obtain ⟨v1, e1, -⟩ := hall 1 (by decide)
  obtain ⟨v2, e2, -⟩ := hall 2 (by decide)
  obtain ⟨v3, e3, -⟩ := hall 3 (by decide)
  obtain ⟨v4, e4, -⟩ := hall 4 (by decide)
  obtain ⟨v5, e5, -⟩ := hall 5 (by decide)
  obtain ⟨v6, e6, -⟩ := hall 6 (by decide)
  obtain ⟨v7, e7, -⟩ := hall 7 (by decide)
  obtain ⟨v8, e8, -⟩ := hall 8 (by decide)
  obtain ⟨v9, e9, -⟩ := hall 9 (by decide)
  obtain ⟨va, ea, ha⟩ := hall 10 (by decide)
  have HB5 := Lib.hid (below_step HB1.out hlow)
  have HO5 : Hid (OwnS W.heap.size w5 va [wordOf 6, digs x1, bts x2]) := Lib.hid ha
  have HW5 := Lib.hid (HWn.out w5 hlow)
  have c0 : w5.cell? ⟨N, 0, none⟩ = some (.int .i64 6) := HW5.out.cell 0
  simp only [List.length_cons, List.length_nil, Nat.reduceAdd, fillTo, e0, e1, e2, e3, e4, e5, e6, e7, e8, e9, ea, dstOf]
  clear e0 e1 e2 e3 e4 e5 e6 e7 e8 e9 ea hlow hall ha
  go_simp
  obtain ⟨B, HBb⟩ : ∃ B, Hid (B = W.heap.size) := ⟨_, Lib.hid rfl⟩
  obtain ⟨lv, Hlv⟩ : ∃ v, Hid (v = va) := ⟨_, Lib.hid rfl⟩
  obtain ⟨ss, Hss⟩ : ∃ s, Hid (s = [wordOf 6, digs x1, bts x2]) := ⟨_, Lib.hid rfl⟩
  have HOq : Hid (OwnS B w5 lv ss) := Lib.hid (by rw [HBb.out, Hlv.out, Hss.out]; exact HO5.out)
  have HBq : Hid (Below B W w5 ∧ B ≤ w5.heap.size) := Lib.hid (by rw [HBb.out]; exact ⟨HB5.out, HB5.out.size⟩)
  have HGq := HW5
  have HNn : Hid (x7.size ≤ 100000000) := Lib.hid (by omega)
  have HLs : Hid (ss.length + [bts x6, Lex.quote x7.data.toList].length ≤ 1000000) := Lib.hid (by rw [Hss.out]; simp)
  have HTn : Hid (T = Lib.join (ss ++ [bts x6, Lex.quote x7.data.toList]) [32]) := Lib.hid (by rw [HTj.out.1, Hss.out]; simp)
  rw [← Hlv.out]
  go_wp2_with fail
  clear c0
  apply wp_region_entE 77 (apK 7 6 8) (apP B w5 (fun _ => True) lv ss [bts x6, Lex.quote x7.data.toList] 7 6 8) (etnV N x6 x7 lv) apP_cg (by kernel_rfl) (by kernel_rfl) rfl (apP_zero (fun _ _ _ _ => trivial) trivial HBq.out.2 HOq.out)
  · intro i o ho e w A' hT hei hwn hsee haway
    have q1 : A'.eval (.tmp 1) = .pointer (some ⟨N, 0, none⟩) := (haway 1 (by kernel_rfl)).trans rfl
    have hi : i < 9 := by have := (List.getElem?_eq_some_iff.1 ho).1; simpa using this
    have hi : i = 0 ∨ i = 1 ∨ i = 2 ∨ i = 3 ∨ i = 4 ∨ i = 5 ∨ i = 6 ∨ i = 7 ∨ i = 8 := by omega
    rcases hi with rfl | rfl | rfl | rfl | rfl | rfl | rfl | rfl | rfl
    all_goals
      simp only [List.getElem?_cons_succ, List.getElem?_cons_zero, Option.some.injEq] at ho
      subst ho
    · have q4 : A'.eval (.tmp 4) = lv := (haway 4 (by kernel_rfl)).trans rfl
      exact wp_of_runL (rMove _ _ _ _ _ A' w (.tmp 4) _ q4) ⟨_, rfl, rfl, LeavesE.plain (apP_below (fun _ _ _ _ => trivial)) (Below.refl _ _) (by decide)⟩
    · exact wp_of_runL (rField _ _ _ _ _ A' w 50 (.tmp 1) 6 N 0 6 _ _ Tryz.underlying50 rfl (by kernel_rfl) rfl (by kernel_rfl) q1) ⟨_, rfl, rfl, LeavesE.plain (apP_below (fun _ _ _ _ => trivial)) (Below.refl _ _) (by decide)⟩
    · have q68 : A'.eval (.tmp 68) = .pointer (some ⟨N, 6, none⟩) := (hsee 68 1 (by kernel_rfl) (by kernel_rfl)).2 (want_free (by kernel_rfl))
      have HLw := hT.fact 1 rfl (by simp [((hT.none_of (j := 7) (hT.none_of (j := 6) hei (by kernel_rfl)) (by kernel_rfl)) : e 7 = none)]) (by simp) rfl
      exact wp_of_runL (rLoad1 _ _ _ _ _ A' w 9 (.tmp 68) _ _ _ Tryz.underlying9 rfl ((whole_belowM HGq.out HLw).cell 6) q68) ⟨_, rfl, rfl, LeavesE.plain (apP_below (fun _ _ _ _ => trivial)) (Below.refl _ _) (by decide)⟩
    · exact wp_of_runL (rField _ _ _ _ _ A' w 50 (.tmp 1) 7 N 0 7 _ _ Tryz.underlying50 rfl (by kernel_rfl) rfl (by kernel_rfl) q1) ⟨_, rfl, rfl, LeavesE.plain (apP_below (fun _ _ _ _ => trivial)) (Below.refl _ _) (by decide)⟩
    · have q70 : A'.eval (.tmp 70) = .pointer (some ⟨N, 7, none⟩) := (hsee 70 3 (by kernel_rfl) (by kernel_rfl)).2 (want_free (by kernel_rfl))
      have HLw := hT.fact 1 rfl (by simp [((hT.none_of (j := 7) (hT.none_of (j := 6) (hT.none_of (j := 5) hei (by kernel_rfl)) (by kernel_rfl)) (by kernel_rfl)) : e 7 = none)]) (by simp) rfl
      exact wp_of_runL (rLoad1 _ _ _ _ _ A' w 9 (.tmp 70) _ _ _ Tryz.underlying9 rfl ((whole_belowM HGq.out HLw).cell 7) q70) ⟨_, rfl, rfl, LeavesE.plain (apP_below (fun _ _ _ _ => trivial)) (Below.refl _ _) (by decide)⟩
    · have q71 : A'.eval (.tmp 71) = .string x7 := (hsee 71 4 (by kernel_rfl) (by kernel_rfl)).2 (want_free (by kernel_rfl))
      refine wp_of_callL _ _ _ _ _ _ _ 47 _ [.tmp 71] [.string x7] (by simp [q71]) (by kernel_rfl) ?_
      refine (quote_any x7 HNn.out w).mono ?_
      rintro e' w2 ⟨rfl, hb2⟩
      exact ⟨_, rfl, _, rfl, rfl, LeavesE.plain (apP_below (fun _ _ _ _ => trivial)) hb2 (by decide)⟩
    · have q69 : A'.eval (.tmp 69) = .string x6 := (hsee 69 2 (by kernel_rfl) (by kernel_rfl)).2 (want_free (by kernel_rfl))
      have q72 : A'.eval (.tmp 72) = .string ⟨(Lex.quote x7.data.toList).toArray⟩ := (hsee 72 5 (by kernel_rfl) (by kernel_rfl)).2 (want_free (by kernel_rfl))
      exact wp_of_runL (run_twoS _ _ _ _ _ A' w 69 72 _ _ q69 q72) ⟨_, rfl, trivial, LeavesE.below (apP_below (fun _ _ _ _ => trivial)) ((Below.refl _ _).alloc (Nat.le_refl _) _) (ap_new_build (by decide) (by decide) _ (Whole.new _ _ _))⟩
    · have q67 : A'.eval (.tmp 67) = lv := (hsee 67 0 (by kernel_rfl) (by kernel_rfl)).2 (want_free (by kernel_rfl))
      have f6 : e 6 = some (A'.eval (.tmp 73)) := (hsee 73 6 (by kernel_rfl) (by kernel_rfl)).1
      have ho := hT.fact 2 rfl (by simp [hei]) (by simp) rfl
      obtain ⟨g, h1, h2⟩ := hT.fact 3 rfl (by simp [hei]) (by simp [f6]) rfl
      rw [valOf_some f6] at h1
      have h0 := hT.fact 0 rfl (by simp) (by simp) rfl
      obtain ⟨v, w', hr, hn, hg⟩ := run_appS _ ho h0.2 HLs.out h2
      exact wp_of_runL (run_appTwo _ _ _ _ _ A' w w' 67 73 _ _ _ _ q67 h1 hr) ⟨_, rfl, trivial, ap_leaves_app (fun _ _ _ _ _ => trivial) (by decide) (by decide) (hT.none_of hei (by kernel_rfl)) h0 ho hn hg⟩
    · have f7 : e 7 = some (A'.eval (.tmp 74)) := (hsee 74 7 (by kernel_rfl) (by kernel_rfl)).1
      exact wp_of_runL (rAssign _ _ _ _ _ A' w (.tmp 74) _ rfl) ⟨_, rfl, trivial, LeavesE.below (apP_below (fun _ _ _ _ => trivial)) (Below.refl _ _) (ap_new_assign (by decide) (by decide) f7)⟩
  intro e wz hT hall
  obtain ⟨v0, e0⟩ := hall 0 (by decide)
  obtain ⟨v1, e1⟩ := hall 1 (by decide)
  obtain ⟨v2, e2⟩ := hall 2 (by decide)
  obtain ⟨v3, e3⟩ := hall 3 (by decide)
  obtain ⟨v4, e4⟩ := hall 4 (by decide)
  obtain ⟨v5, e5⟩ := hall 5 (by decide)
  obtain ⟨v6, e6⟩ := hall 6 (by decide)
  obtain ⟨v7, e7⟩ := hall 7 (by decide)
  obtain ⟨v8, e8⟩ := hall 8 (by decide)
  have hF0 := hT.fact 0 rfl (by simp) (by simp) (by kernel_rfl)
  simp only [apP] at hF0
  have hF4 := hT.fact 4 rfl (by simp) (by simp [e7]) (by kernel_rfl)
  simp only [apP, valOf_some e7] at hF4
  have hF5 := hT.fact 5 rfl (by simp) (by simp [e7, e8]) (by kernel_rfl)
  simp only [apP, valOf_some e7, valOf_some e8] at hF5
  simp only [List.length_cons, List.length_nil, Nat.reduceAdd, fillTo, e0, e1, e2, e3, e4, e5, e6, e7, e8, dstOf]
  clear e0 e1 e2 e3 e4 e5 e6 e7 e8 hT hall
  have HF0 := Lib.hid hF0
  subst hF5
  have HF4 := Lib.hid hF4
  clear hF0 hF4
  go_simp
  have HJ := Lib.hid (join_own B _ (ss ++ [bts x6, Lex.quote x7.data.toList]) (by simp) (by rw [List.length_append]; exact HLs.out) wz HF4.out (by rw [← HTn.out]; exact HTj.out.2))
  rw [← HTn.out] at HJ
  have HBz : Hid (Below W.heap.size W wz) := Lib.hid (by have h := HBq.out.1.trans HF0.out.1; rw [HBb.out] at h; exact h)
  go_wp2_with fail
  refine HJ.out.mono ?_
  rintro e w8 ⟨rfl, hb8⟩
  have HB8 := Lib.hid (below_step HBz.out hb8)
  clear hb8
  go_wp2_with fail
  go_ret2
  exact ⟨rfl, HB8.out⟩
end Go.Proofs.YtfkejnnbfneieaaGreatDoor

/- event.Text at a run; at any event. -/
namespace Go.Proofs.YtfkejnnbfneieaaGreatDoor
open Go.RowKit Go.Sort
open Evt

def etrV (g6 na nb : Nat) (lv : Value) : Nat → Value → Prop
  | 0, v => v = lv
  | 1, v => v = .pointer (some ⟨g6, 0, none⟩)
  | 2, v => v = .int .i64 (na : Int)
  | 3, v => v = .string ⟨(Lib.decDigits na).toArray⟩
  | 4, v => v = .pointer (some ⟨g6, 1, none⟩)
  | 5, v => v = .int .i64 (nb : Int)
  | 6, v => v = .string ⟨(Lib.decDigits nb).toArray⟩
  | _, _ => True
set_option maxRecDepth 100000 in
set_option maxHeartbeats 8000000 in
theorem evText_run (x : Ev) (hx : Sz x) (hv : Evt.valid x = true) (h4 : x.op = 4) (W : World) (hT : WTab W) (ht : Tab W) :
    Calls Tryz.prog 28 #[.agg (evC x).toArray] W fun e w' => e = .returned (.tuple #[.string ⟨(textE x).toArray⟩, .int .i64 0]) ∧ Below W.heap.size W w' := by
  obtain ⟨i1, hi1, hy0, hy1, hy2⟩ := infoP info_strE
  obtain ⟨o1, o2, d1, d2, -, -⟩ := valid_op hv
  have hU := ok4 hv h4
  have hl := textE_len hv
  obtain ⟨V, HV⟩ : ∃ w, Hid (w = W.alloc (.cells (evC x).toArray 50)) := ⟨_, Lib.hid rfl⟩
  obtain ⟨N, HN⟩ : ∃ N, Hid (N = W.heap.size) := ⟨_, Lib.hid rfl⟩
  have HB : Hid (Below W.heap.size W V) := Lib.hid (by rw [HV.out]; exact (Below.refl _ _).alloc (Nat.le_refl _) _)
  have HW : Hid (Whole V N 50 (evC x).toArray) := Lib.hid (by rw [HV.out, HN.out]; exact Whole.new _ _ _)
  have HC := Lib.hid (evValid_any x hx V)
  rw [hv] at HC
  have HSp := Lib.hid ev_size
  have HT := Lib.hid hT
  have HTb := Lib.hid ht
  obtain ⟨T, HTx⟩ : ∃ T, Hid (T = textE x) := ⟨_, Lib.hid rfl⟩
  have HTj : Hid (T = Lib.join ([wordOf x.op, digs x.day, bts x.part] ++
    (if x.op = 1 then [bts x.kind] else if x.op = 2 then [bts x.into, bts x.slot]
     else if x.op = 4 then [digs x.k0, digs x.k1, digs x.c0, digs x.c1, digs x.d0, digs x.d1]
     else if x.op = 6 then [bts x.key, Lex.quote x.value.data.toList] else [])) [32] ∧ T.length ≤ 140737488355328) := Lib.hid ⟨by rw [HTx.out]; rfl, by rw [HTx.out]; omega⟩
  rw [← HTx.out]
  clear hx hv hl hT ht HTx
  obtain ⟨x0, x1, x2, x3, x4, x5, x6, x7, x8, x9, xa, xb, xc, xd⟩ := x
  dsimp only at HTj h4 o1 o2 d1 d2 hU
  subst h4
  have HU := Lib.hid hU
  clear hU
  unfold evC at HV HC HW ⊢
  go_enter Tryz.func28, Tryz.ntmps28
  go_wp2_with fail
  rw [← HV.out, ← HN.out]
  refine HC.out.mono ?_
  rintro e w1 ⟨rfl, hb⟩
  have HB1 := Lib.hid (below_step HB.out hb)
  have HW1 := Lib.hid (whole_belowM HW.out hb)
  clear hb
  have HWT1 : Hid (∀ w, Below w1.heap.size w1 w → WTab w ∧ Tab w) := Lib.hid fun w hw => ⟨HT.out.below (below_step HB1.out hw), HTb.out.below (below_step HB1.out hw)⟩
  have HWn : Hid (∀ w, Below w1.heap.size w1 w → Whole w N 50 _) := Lib.hid fun w hw => whole_belowM HW1.out hw
  have HO := Lib.hid (And.intro o1 o2)
  have HD := Lib.hid (And.intro d1 d2)
  clear o1 o2 d1 d2
  go_wp2_with fail
  apply wp_region_monoL 77 (etP N W.heap.size 4 x1 x2) etP_below (by kernel_rfl) (by kernel_rfl) rfl
  · intro i o ho w A' hlow hsee haway
    have s1 : A'.eval (.tmp 1) = .pointer (some ⟨N, 0, none⟩) := (haway 1 (by kernel_rfl)).trans rfl
    have hi : i < 11 := by have := (List.getElem?_eq_some_iff.1 ho).1; simpa using this
    have hi : i = 0 ∨ i = 1 ∨ i = 2 ∨ i = 3 ∨ i = 4 ∨ i = 5 ∨ i = 6 ∨ i = 7 ∨ i = 8 ∨ i = 9 ∨ i = 10 := by omega
    rcases hi with rfl | rfl | rfl | rfl | rfl | rfl | rfl | rfl | rfl | rfl | rfl
    all_goals
      simp only [List.getElem?_cons_succ, List.getElem?_cons_zero, Option.some.injEq] at ho
      subst ho
    · exact wp_of_runL (run_fieldEv0 _ _ _ _ _ _ _ 1 N s1) ⟨_, rfl, Below.refl _ _, rfl⟩
    · have q : A'.eval (.tmp 10) = .pointer (some ⟨N, 0, none⟩) := hsee 10 (by decide) 0 rfl
      exact wp_of_runL (run_loadSI _ _ _ _ _ _ _ _ (Or.inl rfl) 10 _ _ q ((HWn.out w hlow).cell 0)) ⟨_, rfl, Below.refl _ _, rfl⟩
    · have q : A'.eval (.tmp 11) = .int .i64 4 := hsee 11 (by decide) 1 rfl
      exact wp_of_runL (run_indexW _ _ _ _ _ _ _ 11 4 HO.out.1 HO.out.2 q) ⟨_, rfl, Below.refl _ _, rfl⟩
    · have q : A'.eval (.tmp 12) = .pointer (some ⟨0, (4 : Int).toNat, none⟩) := hsee 12 (by decide) 2 rfl
      exact wp_of_runL (run_loadSI _ _ _ _ _ _ _ _ (Or.inr rfl) 12 _ _ q ((HWT1.out w hlow).1.cell (wordOf_at HO.out.1 HO.out.2))) ⟨_, rfl, Below.refl _ _, rfl⟩
    · exact wp_of_runL (run_fieldEv1 _ _ _ _ _ _ _ 1 N s1) ⟨_, rfl, Below.refl _ _, rfl⟩
    · have q : A'.eval (.tmp 14) = .pointer (some ⟨N, 1, none⟩) := hsee 14 (by decide) 4 rfl
      exact wp_of_runL (run_loadSI _ _ _ _ _ _ _ _ (Or.inl rfl) 14 _ _ q ((HWn.out w hlow).cell 1)) ⟨_, rfl, Below.refl _ _, rfl⟩
    · have q : A'.eval (.tmp 15) = .int .i64 x1 := hsee 15 (by decide) 5 rfl
      have hn : x1 = ((x1.toNat : Nat) : Int) := by have := HD.out.1; omega
      rw [hn] at q
      refine wp_of_callL _ _ _ _ _ _ _ 46 _ [.tmp 15] [.int .i64 (x1.toNat : Int)] (by simp [q]) rfl ?_
      refine (itoa_any x1.toNat (by have := HD.out.2; omega) w (HWT1.out w hlow).2).mono ?_
      rintro e w2 ⟨rfl, hb2⟩
      exact ⟨_, rfl, _, rfl, hb2, rfl⟩
    · exact wp_of_runL (run_fieldEv2 _ _ _ _ _ _ _ 1 N s1) ⟨_, rfl, Below.refl _ _, rfl⟩
    · have q : A'.eval (.tmp 17) = .pointer (some ⟨N, 2, none⟩) := hsee 17 (by decide) 7 rfl
      exact wp_of_runL (run_loadSI _ _ _ _ _ _ _ _ (Or.inr rfl) 17 _ _ q ((HWn.out w hlow).cell 2)) ⟨_, rfl, Below.refl _ _, rfl⟩
    · have q3 : A'.eval (.tmp 13) = .string ⟨(wordOf 4).toArray⟩ := hsee 13 (by decide) 3 rfl
      have q6 : A'.eval (.tmp 16) = .string ⟨(digs x1).toArray⟩ := hsee 16 (by decide) 6 rfl
      have q8 : A'.eval (.tmp 18) = .string x2 := hsee 18 (by decide) 8 rfl
      refine wp_of_runL (run_threeS _ _ _ _ _ _ _ 13 16 18 _ _ _ q3 q6 q8) ⟨_, rfl, (Below.refl _ _).alloc (Nat.le_refl _) _, ?_⟩
      refine ⟨rfl, Or.inr ⟨w.heap.size, 3, _, rfl, (below_step HB1.out hlow).size, Whole.new _ _ _, Nat.le_refl _, by unfold maxLen; omega, rfl, ?_⟩⟩
      simp [encStr, bts]
    · obtain ⟨v, hv⟩ : ∃ v, A'.eval (.tmp 19) = v := ⟨_, rfl⟩
      have q : OwnS W.heap.size w (A'.eval (.tmp 19)) [wordOf 4, digs x1, bts x2] := hsee 19 (by decide) 9 rfl
      exact wp_of_runL (run_assignL _ _ _ _ _ _ _ 19 _ rfl) ⟨_, rfl, Below.refl _ _, q⟩
  intro e w5 hlow hall
  obtain ⟨v0, e0, -⟩ := hall 0 (by decide)
  obtain ⟨v1, e1, -⟩ := hall 1 (by decide)
  obtain ⟨v2, e2, -⟩ := hall 2 (by decide)
  obtain ⟨v3, e3, -⟩ := hall 3 (by decide)
  obtain ⟨v4, e4, -⟩ := hall 4 (by decide)
  obtain ⟨v5, e5, -⟩ := hall 5 (by decide)
  obtain ⟨v6, e6, -⟩ := hall 6 (by decide)
  obtain ⟨v7, e7, -⟩ := hall 7 (by decide)
  obtain ⟨v8, e8, -⟩ := hall 8 (by decide)
  obtain ⟨v9, e9, -⟩ := hall 9 (by decide)
  obtain ⟨va, ea, ha⟩ := hall 10 (by decide)
  have HB5 := Lib.hid (below_step HB1.out hlow)
  have HO5 : Hid (OwnS W.heap.size w5 va [wordOf 4, digs x1, bts x2]) := Lib.hid ha
  have HW5 := Lib.hid (HWn.out w5 hlow)
  have c0 : w5.cell? ⟨N, 0, none⟩ = some (.int .i64 4) := HW5.out.cell 0
  simp only [List.length_cons, List.length_nil, Nat.reduceAdd, fillTo, e0, e1, e2, e3, e4, e5, e6, e7, e8, e9, ea, dstOf]
  clear e0 e1 e2 e3 e4 e5 e6 e7 e8 e9 ea hlow hall ha
  go_simp
  obtain ⟨B, HBb⟩ : ∃ B, Hid (B = W.heap.size) := ⟨_, Lib.hid rfl⟩
  obtain ⟨bs, Hbs⟩ : ∃ s, Hid (s = [wordOf 4, digs x1, bts x2]) := ⟨_, Lib.hid rfl⟩
  have HOs : Hid (OwnS B w5 va bs) := Lib.hid (by rw [HBb.out, Hbs.out]; exact HO5.out)
  have HTW : Hid (∀ w, Below W.heap.size W w → Tab w) := Lib.hid (fun w hw => HTb.out.below hw)
  have HTn : Hid (T = Lib.join (bs ++ [digs x8, digs x9, digs xa, digs xb, digs xc, digs xd]) [32]) := Lib.hid (by rw [HTj.out.1, Hbs.out]; simp)
  have hbl : bs.length = 3 := by rw [Hbs.out]; rfl
  have Hbl := Lib.hid hbl
  clear hbl
  obtain ⟨a0, ha0⟩ : ∃ n : Nat, x8 = n := ⟨x8.toNat, by have := HU.out; omega⟩
  obtain ⟨a1, ha1⟩ : ∃ n : Nat, x9 = n := ⟨x9.toNat, by have := HU.out; omega⟩
  obtain ⟨a2, ha2⟩ : ∃ n : Nat, xa = n := ⟨xa.toNat, by have := HU.out; omega⟩
  obtain ⟨a3, ha3⟩ : ∃ n : Nat, xb = n := ⟨xb.toNat, by have := HU.out; omega⟩
  obtain ⟨a4, ha4⟩ : ∃ n : Nat, xc = n := ⟨xc.toNat, by have := HU.out; omega⟩
  obtain ⟨a5, ha5⟩ : ∃ n : Nat, xd = n := ⟨xd.toNat, by have := HU.out; omega⟩
  subst ha0 ha1 ha2 ha3 ha4 ha5
  have hbnd : a0 ≤ 1000000 ∧ a1 ≤ 1000000 ∧ a2 ≤ 1000000 ∧ a3 ≤ 1000000 ∧ a4 ≤ 1000000 ∧ a5 ≤ 1000000 := by have := HU.out; omega
  have Hbnd := Lib.hid hbnd
  clear hbnd
  have k8 : w5.cell? ⟨N, 8, none⟩ = some (.int .i64 (a0 : Int)) := HW5.out.cell 8
  have k9 : w5.cell? ⟨N, 9, none⟩ = some (.int .i64 (a1 : Int)) := HW5.out.cell 9
  have ka : w5.cell? ⟨N, 10, none⟩ = some (.int .i64 (a2 : Int)) := HW5.out.cell 10
  have kb : w5.cell? ⟨N, 11, none⟩ = some (.int .i64 (a3 : Int)) := HW5.out.cell 11
  have kc : w5.cell? ⟨N, 12, none⟩ = some (.int .i64 (a4 : Int)) := HW5.out.cell 12
  have kd : w5.cell? ⟨N, 13, none⟩ = some (.int .i64 (a5 : Int)) := HW5.out.cell 13
  obtain ⟨g49, Hg49⟩ : ∃ x, Hid (x = w5.heap.size) := ⟨_, Lib.hid rfl⟩
  obtain ⟨arr, Harr⟩ : ∃ a : Array Value, Hid (a = #[.int .i64 (a0 : Int), .int .i64 (a1 : Int), .int .i64 (a2 : Int), .int .i64 (a3 : Int), .int .i64 (a4 : Int), .int .i64 (a5 : Int)]) := ⟨_, Lib.hid rfl⟩
  obtain ⟨w6, Hw6⟩ : ∃ x, Hid (x = w5.alloc (.cells #[.int .i64 (a0 : Int), .int .i64 (a1 : Int), .int .i64 (a2 : Int), .int .i64 (a3 : Int), .int .i64 (a4 : Int), .int .i64 (a5 : Int)] 46)) := ⟨_, Lib.hid rfl⟩
  have HW6 : Hid (Whole w6 g49 46 arr) := Lib.hid (by rw [Hw6.out, Hg49.out, Harr.out]; exact Whole.new _ _ _)
  have HB6 : Hid (Below B W w6 ∧ B ≤ w6.heap.size) := Lib.hid (by rw [HBb.out, Hw6.out]; exact ⟨below_alloc HB5.out _, (below_alloc HB5.out _).size⟩)
  have HO6 : Hid (OwnS B w6 va bs) := Lib.hid (HOs.out.below (by rw [Hw6.out]; exact (Below.refl _ _).alloc (Nat.le_refl _) _))
  have HRb : Hid (∀ w w', Whole w g49 46 arr → Below w.heap.size w w' → Whole w' g49 46 arr) := Lib.hid (fun w w' h hb => whole_belowM h hb)
  obtain ⟨rows, Hrows⟩ : ∃ f : Nat → List (List UInt8), Hid (f = fun q => bs ++ ([Lib.decDigits a0, Lib.decDigits a1, Lib.decDigits a2, Lib.decDigits a3, Lib.decDigits a4, Lib.decDigits a5]).take (2 * q)) := ⟨_, Lib.hid rfl⟩
  have HR0 : Hid (rows 0 = bs) := Lib.hid (by rw [Hrows.out]; simp)
  have HR1 : Hid (rows 1 = rows 0 ++ [Lib.decDigits a0, Lib.decDigits a1]) := Lib.hid (by rw [Hrows.out]; simp)
  have HR2 : Hid (rows 2 = rows 1 ++ [Lib.decDigits a2, Lib.decDigits a3]) := Lib.hid (by rw [Hrows.out]; simp)
  have HR3 : Hid (rows 3 = rows 2 ++ [Lib.decDigits a4, Lib.decDigits a5]) := Lib.hid (by rw [Hrows.out]; simp)
  have HRl : Hid (∀ q, (rows q).length ≤ 9) := Lib.hid (fun q => by rw [Hrows.out]; simp [Hbl.out]; omega)
  have HRe : Hid (T = Lib.join (rows 3) [32]) := Lib.hid (by rw [HTn.out, Hrows.out]; simp [digs])
  go_wp2_with fail
  rw [← Hw6.out, ← Hg49.out]
  clear c0
  clear k8 k9 ka kb kc kd
  go_loopw [4, 51] (fun l i wr => ∃ (q : Nat) (lv : Value), q ≤ 3 ∧ i = .int .i64 q ∧ l = lv ∧ Hid ((Below B W wr ∧ B ≤ wr.heap.size) ∧ OwnS B wr lv (rows q) ∧ Whole wr g49 46 arr)) (fun _ i _ => 3 - (intOf i).toNat)
  case atStart => exact ⟨0, _, by omega, by go_num, rfl, Lib.hid ⟨HB6.out, by rw [HR0.out]; exact HO6.out, HW6.out⟩⟩
  case round =>
    obtain ⟨q, lv, hq, rfl, hlv, HQ⟩ := hrel
    replace hlv := hlv.symm
    subst hlv
    have HRg : Hid (∀ ss w w', Whole w g49 46 arr → OwnS B w lv ss → w.grownBy w' lv.ownBlock → Whole w' g49 46 arr) := Lib.hid (fun ss w w' h ho hg => whole_grownM h hg (owns_wholeM ho h (by decide)))
    have hq4 : q = 0 ∨ q = 1 ∨ q = 2 ∨ q = 3 := by omega
    rcases hq4 with rfl | rfl | rfl | rfl
    · obtain ⟨na, nb, Hab⟩ : ∃ na nb, Hid (na = a0 ∧ nb = a1) := ⟨_, _, Lib.hid ⟨rfl, rfl⟩⟩
      obtain ⟨ss, Hss⟩ : ∃ s, Hid (s = rows 0) := ⟨_, Lib.hid rfl⟩
      rw [← Hss.out] at HQ
      have HNx : Hid (rows 1 = ss ++ [Lib.decDigits na, Lib.decDigits nb]) := Lib.hid (by rw [HR1.out, Hss.out, Hab.out.1, Hab.out.2])
      have HNn : Hid (na ≤ 140737488355328 ∧ nb ≤ 140737488355328) := Lib.hid (by have := Hbnd.out; have := Hab.out; omega)
      have HLs : Hid (ss.length + [Lib.decDigits na, Lib.decDigits nb].length ≤ 1000000) := Lib.hid (by have := HRl.out 0; rw [← Hss.out] at this; simp; omega)
      have cA : wr.cell? ⟨g49, 0, none⟩ = some (.int .i64 (na : Int)) := by rw [HQ.out.2.2.cell, Harr.out, Hab.out.1]; rfl
      have cB : wr.cell? ⟨g49, 1, none⟩ = some (.int .i64 (nb : Int)) := by rw [HQ.out.2.2.cell, Harr.out, Hab.out.2]; rfl
      replace HRg := Lib.hid (HRg.out ss)
      obtain ⟨g6, Hg6⟩ : ∃ x, Hid (x = wr.heap.size) := ⟨_, Lib.hid rfl⟩
      obtain ⟨wq, Hwq⟩ : ∃ x, Hid (x = wr.alloc (.cells #[.int .i64 (na : Int), .int .i64 (nb : Int)] 46)) := ⟨_, Lib.hid rfl⟩
      have hbq : Below wr.heap.size wr wq := by rw [Hwq.out]; exact (Below.refl _ _).alloc (Nat.le_refl _) _
      have HGq : Hid (Whole wq g6 46 #[.int .i64 (na : Int), .int .i64 (nb : Int)]) := Lib.hid (by rw [Hwq.out, Hg6.out]; exact Whole.new _ _ _)
      have HBq : Hid (Below B W wq ∧ B ≤ wq.heap.size) := Lib.hid ⟨below_low HQ.out.1.1 HQ.out.1.2 hbq, Nat.le_trans HQ.out.1.2 hbq.size⟩
      have HOq : Hid (OwnS B wq lv ss) := Lib.hid (by have h := HQ.out.2.1; exact (h.below hbq))
      have HRq : Hid (Whole wq g49 46 arr) := Lib.hid (whole_belowM HQ.out.2.2 hbq)
      have HTq : Hid (Tab wq) := Lib.hid (HTW.out wq (by have h := HBq.out.1; rw [HBb.out] at h; exact h))
      clear hbq
      go_wp2_with fail
      rw [← Hwq.out, ← Hg6.out]
      clear cA cB
      apply wp_region_entE 77 (apK 8 7 9) (apP B wq (fun w => Whole w g49 46 arr) lv ss [Lib.decDigits na, Lib.decDigits nb] 8 7 9) (etrV g6 na nb lv) apP_cg (by kernel_rfl) (by kernel_rfl) rfl (apP_zero HRb.out HRq.out HBq.out.2 HOq.out)
      · intro i o ho e w A' hT hei hwn hsee haway
        have q6 : A'.eval (.tmp 6) = .pointer (some ⟨g6, 0, none⟩) := (haway 6 (by kernel_rfl)).trans rfl
        have hi : i < 10 := by have := (List.getElem?_eq_some_iff.1 ho).1; simpa using this
        have hi : i = 0 ∨ i = 1 ∨ i = 2 ∨ i = 3 ∨ i = 4 ∨ i = 5 ∨ i = 6 ∨ i = 7 ∨ i = 8 ∨ i = 9 := by omega
        rcases hi with rfl | rfl | rfl | rfl | rfl | rfl | rfl | rfl | rfl | rfl
        all_goals
          simp only [List.getElem?_cons_succ, List.getElem?_cons_zero, Option.some.injEq] at ho
          subst ho
        · have q4 : A'.eval (.tmp 4) = lv := (haway 4 (by kernel_rfl)).trans rfl
          exact wp_of_runL (rMove _ _ _ _ _ A' w (.tmp 4) _ q4) ⟨_, rfl, rfl, LeavesE.plain (apP_below HRb.out) (Below.refl _ _) (by decide)⟩
        · exact wp_of_runL (rField _ _ _ _ _ A' w 46 (.tmp 6) 0 g6 0 0 _ _ Tryz.underlying46 rfl (by kernel_rfl) rfl (by kernel_rfl) q6) ⟨_, rfl, rfl, LeavesE.plain (apP_below HRb.out) (Below.refl _ _) (by decide)⟩
        · have q56 : A'.eval (.tmp 56) = .pointer (some ⟨g6, 0, none⟩) := (hsee 56 1 (by kernel_rfl) (by kernel_rfl)).2 (want_free (by kernel_rfl))
          have HLw := hT.fact 1 rfl (by simp [((hT.none_of (j := 8) (hT.none_of (j := 7) (hT.none_of (j := 3) hei (by kernel_rfl)) (by kernel_rfl)) (by kernel_rfl)) : e 8 = none)]) (by simp) rfl
          exact wp_of_runL (rLoad1 _ _ _ _ _ A' w 3 (.tmp 56) _ _ _ Tryz.underlying3 rfl ((whole_belowM HGq.out HLw).cell 0) q56) ⟨_, rfl, rfl, LeavesE.plain (apP_below HRb.out) (Below.refl _ _) (by decide)⟩
        · have q57 : A'.eval (.tmp 57) = .int .i64 (na : Int) := (hsee 57 2 (by kernel_rfl) (by kernel_rfl)).2 (want_free (by kernel_rfl))
          have HLw := hT.fact 1 rfl (by simp [((hT.none_of (j := 8) (hT.none_of (j := 7) hei (by kernel_rfl)) (by kernel_rfl)) : e 8 = none)]) (by simp) rfl
          refine wp_of_callL _ _ _ _ _ _ _ 46 _ [.tmp 57] [.int .i64 (na : Int)] (by simp [q57]) rfl ?_
          refine (itoa_any na HNn.out.1 w (HTq.out.below HLw)).mono ?_
          rintro e' w2 ⟨rfl, hb2⟩
          exact ⟨_, rfl, _, rfl, rfl, LeavesE.plain (apP_below HRb.out) hb2 (by decide)⟩
        · exact wp_of_runL (rField _ _ _ _ _ A' w 46 (.tmp 6) 1 g6 0 1 _ _ Tryz.underlying46 rfl (by kernel_rfl) rfl (by kernel_rfl) q6) ⟨_, rfl, rfl, LeavesE.plain (apP_below HRb.out) (Below.refl _ _) (by decide)⟩
        · have q59 : A'.eval (.tmp 59) = .pointer (some ⟨g6, 1, none⟩) := (hsee 59 4 (by kernel_rfl) (by kernel_rfl)).2 (want_free (by kernel_rfl))
          have HLw := hT.fact 1 rfl (by simp [((hT.none_of (j := 8) (hT.none_of (j := 7) (hT.none_of (j := 6) hei (by kernel_rfl)) (by kernel_rfl)) (by kernel_rfl)) : e 8 = none)]) (by simp) rfl
          exact wp_of_runL (rLoad1 _ _ _ _ _ A' w 3 (.tmp 59) _ _ _ Tryz.underlying3 rfl ((whole_belowM HGq.out HLw).cell 1) q59) ⟨_, rfl, rfl, LeavesE.plain (apP_below HRb.out) (Below.refl _ _) (by decide)⟩
        · have q60 : A'.eval (.tmp 60) = .int .i64 (nb : Int) := (hsee 60 5 (by kernel_rfl) (by kernel_rfl)).2 (want_free (by kernel_rfl))
          have HLw := hT.fact 1 rfl (by simp [((hT.none_of (j := 8) (hT.none_of (j := 7) hei (by kernel_rfl)) (by kernel_rfl)) : e 8 = none)]) (by simp) rfl
          refine wp_of_callL _ _ _ _ _ _ _ 46 _ [.tmp 60] [.int .i64 (nb : Int)] (by simp [q60]) rfl ?_
          refine (itoa_any nb HNn.out.2 w (HTq.out.below HLw)).mono ?_
          rintro e' w2 ⟨rfl, hb2⟩
          exact ⟨_, rfl, _, rfl, rfl, LeavesE.plain (apP_below HRb.out) hb2 (by decide)⟩
        · have q58 : A'.eval (.tmp 58) = .string ⟨(Lib.decDigits na).toArray⟩ := (hsee 58 3 (by kernel_rfl) (by kernel_rfl)).2 (want_free (by kernel_rfl))
          have q61 : A'.eval (.tmp 61) = .string ⟨(Lib.decDigits nb).toArray⟩ := (hsee 61 6 (by kernel_rfl) (by kernel_rfl)).2 (want_free (by kernel_rfl))
          exact wp_of_runL (run_twoS _ _ _ _ _ A' w 58 61 _ _ q58 q61) ⟨_, rfl, trivial, LeavesE.below (apP_below HRb.out) ((Below.refl _ _).alloc (Nat.le_refl _) _) (ap_new_build (by decide) (by decide) _ (Whole.new _ _ _))⟩
        · have q55 : A'.eval (.tmp 55) = lv := (hsee 55 0 (by kernel_rfl) (by kernel_rfl)).2 (want_free (by kernel_rfl))
          have f7 : e 7 = some (A'.eval (.tmp 62)) := (hsee 62 7 (by kernel_rfl) (by kernel_rfl)).1
          have ho := hT.fact 2 rfl (by simp [hei]) (by simp) rfl
          obtain ⟨g, h1, h2⟩ := hT.fact 3 rfl (by simp [hei]) (by simp [f7]) rfl
          rw [valOf_some f7] at h1
          have h0 := hT.fact 0 rfl (by simp) (by simp) rfl
          obtain ⟨v, w', hr, hn, hg⟩ := run_appS _ ho h0.2 HLs.out h2
          exact wp_of_runL (run_appTwo _ _ _ _ _ A' w w' 55 62 _ _ _ _ q55 h1 hr) ⟨_, rfl, trivial, ap_leaves_app HRg.out (by decide) (by decide) (hT.none_of hei (by kernel_rfl)) h0 ho hn hg⟩
        · have f8 : e 8 = some (A'.eval (.tmp 63)) := (hsee 63 8 (by kernel_rfl) (by kernel_rfl)).1
          exact wp_of_runL (rAssign _ _ _ _ _ A' w (.tmp 63) _ rfl) ⟨_, rfl, trivial, LeavesE.below (apP_below HRb.out) (Below.refl _ _) (ap_new_assign (by decide) (by decide) f8)⟩
      intro e wz hT hall
      obtain ⟨v0, e0⟩ := hall 0 (by decide)
      obtain ⟨v1, e1⟩ := hall 1 (by decide)
      obtain ⟨v2, e2⟩ := hall 2 (by decide)
      obtain ⟨v3, e3⟩ := hall 3 (by decide)
      obtain ⟨v4, e4⟩ := hall 4 (by decide)
      obtain ⟨v5, e5⟩ := hall 5 (by decide)
      obtain ⟨v6, e6⟩ := hall 6 (by decide)
      obtain ⟨v7, e7⟩ := hall 7 (by decide)
      obtain ⟨v8, e8⟩ := hall 8 (by decide)
      obtain ⟨v9, e9⟩ := hall 9 (by decide)
      have hF0 := hT.fact 0 rfl (by simp) (by simp) (by kernel_rfl)
      simp only [apP] at hF0
      have hF4 := hT.fact 4 rfl (by simp) (by simp [e8]) (by kernel_rfl)
      simp only [apP, valOf_some e8] at hF4
      have hF5 := hT.fact 5 rfl (by simp) (by simp [e8, e9]) (by kernel_rfl)
      simp only [apP, valOf_some e8, valOf_some e9] at hF5
      have hF6 := hT.fact 6 rfl (by simp) (by simp) (by kernel_rfl)
      simp only [apP] at hF6
      simp only [List.length_cons, List.length_nil, Nat.reduceAdd, fillTo, e0, e1, e2, e3, e4, e5, e6, e7, e8, e9, dstOf]
      clear e0 e1 e2 e3 e4 e5 e6 e7 e8 e9 hT hall
      have HF0 := Lib.hid hF0
      subst hF5
      have HF4 := Lib.hid hF4
      have HF6 := Lib.hid hF6
      clear hF0 hF4 hF6
      go_simp
      go_wp2_with fail
      go_round
      case rel => exact ⟨1, _, by omega, by go_num, rfl, Lib.hid ⟨⟨HBq.out.1.trans HF0.out.1, HF0.out.2⟩, by rw [HNx.out]; exact HF4.out, HF6.out⟩⟩
      case measure => simp [intOf]
    · obtain ⟨na, nb, Hab⟩ : ∃ na nb, Hid (na = a2 ∧ nb = a3) := ⟨_, _, Lib.hid ⟨rfl, rfl⟩⟩
      obtain ⟨ss, Hss⟩ : ∃ s, Hid (s = rows 1) := ⟨_, Lib.hid rfl⟩
      rw [← Hss.out] at HQ
      have HNx : Hid (rows 2 = ss ++ [Lib.decDigits na, Lib.decDigits nb]) := Lib.hid (by rw [HR2.out, Hss.out, Hab.out.1, Hab.out.2])
      have HNn : Hid (na ≤ 140737488355328 ∧ nb ≤ 140737488355328) := Lib.hid (by have := Hbnd.out; have := Hab.out; omega)
      have HLs : Hid (ss.length + [Lib.decDigits na, Lib.decDigits nb].length ≤ 1000000) := Lib.hid (by have := HRl.out 1; rw [← Hss.out] at this; simp; omega)
      have cA : wr.cell? ⟨g49, 2, none⟩ = some (.int .i64 (na : Int)) := by rw [HQ.out.2.2.cell, Harr.out, Hab.out.1]; rfl
      have cB : wr.cell? ⟨g49, 3, none⟩ = some (.int .i64 (nb : Int)) := by rw [HQ.out.2.2.cell, Harr.out, Hab.out.2]; rfl
      replace HRg := Lib.hid (HRg.out ss)
      obtain ⟨g6, Hg6⟩ : ∃ x, Hid (x = wr.heap.size) := ⟨_, Lib.hid rfl⟩
      obtain ⟨wq, Hwq⟩ : ∃ x, Hid (x = wr.alloc (.cells #[.int .i64 (na : Int), .int .i64 (nb : Int)] 46)) := ⟨_, Lib.hid rfl⟩
      have hbq : Below wr.heap.size wr wq := by rw [Hwq.out]; exact (Below.refl _ _).alloc (Nat.le_refl _) _
      have HGq : Hid (Whole wq g6 46 #[.int .i64 (na : Int), .int .i64 (nb : Int)]) := Lib.hid (by rw [Hwq.out, Hg6.out]; exact Whole.new _ _ _)
      have HBq : Hid (Below B W wq ∧ B ≤ wq.heap.size) := Lib.hid ⟨below_low HQ.out.1.1 HQ.out.1.2 hbq, Nat.le_trans HQ.out.1.2 hbq.size⟩
      have HOq : Hid (OwnS B wq lv ss) := Lib.hid (by have h := HQ.out.2.1; exact (h.below hbq))
      have HRq : Hid (Whole wq g49 46 arr) := Lib.hid (whole_belowM HQ.out.2.2 hbq)
      have HTq : Hid (Tab wq) := Lib.hid (HTW.out wq (by have h := HBq.out.1; rw [HBb.out] at h; exact h))
      clear hbq
      go_wp2_with fail
      rw [← Hwq.out, ← Hg6.out]
      clear cA cB
      apply wp_region_entE 77 (apK 8 7 9) (apP B wq (fun w => Whole w g49 46 arr) lv ss [Lib.decDigits na, Lib.decDigits nb] 8 7 9) (etrV g6 na nb lv) apP_cg (by kernel_rfl) (by kernel_rfl) rfl (apP_zero HRb.out HRq.out HBq.out.2 HOq.out)
      · intro i o ho e w A' hT hei hwn hsee haway
        have q6 : A'.eval (.tmp 6) = .pointer (some ⟨g6, 0, none⟩) := (haway 6 (by kernel_rfl)).trans rfl
        have hi : i < 10 := by have := (List.getElem?_eq_some_iff.1 ho).1; simpa using this
        have hi : i = 0 ∨ i = 1 ∨ i = 2 ∨ i = 3 ∨ i = 4 ∨ i = 5 ∨ i = 6 ∨ i = 7 ∨ i = 8 ∨ i = 9 := by omega
        rcases hi with rfl | rfl | rfl | rfl | rfl | rfl | rfl | rfl | rfl | rfl
        all_goals
          simp only [List.getElem?_cons_succ, List.getElem?_cons_zero, Option.some.injEq] at ho
          subst ho
        · have q4 : A'.eval (.tmp 4) = lv := (haway 4 (by kernel_rfl)).trans rfl
          exact wp_of_runL (rMove _ _ _ _ _ A' w (.tmp 4) _ q4) ⟨_, rfl, rfl, LeavesE.plain (apP_below HRb.out) (Below.refl _ _) (by decide)⟩
        · exact wp_of_runL (rField _ _ _ _ _ A' w 46 (.tmp 6) 0 g6 0 0 _ _ Tryz.underlying46 rfl (by kernel_rfl) rfl (by kernel_rfl) q6) ⟨_, rfl, rfl, LeavesE.plain (apP_below HRb.out) (Below.refl _ _) (by decide)⟩
        · have q56 : A'.eval (.tmp 56) = .pointer (some ⟨g6, 0, none⟩) := (hsee 56 1 (by kernel_rfl) (by kernel_rfl)).2 (want_free (by kernel_rfl))
          have HLw := hT.fact 1 rfl (by simp [((hT.none_of (j := 8) (hT.none_of (j := 7) (hT.none_of (j := 3) hei (by kernel_rfl)) (by kernel_rfl)) (by kernel_rfl)) : e 8 = none)]) (by simp) rfl
          exact wp_of_runL (rLoad1 _ _ _ _ _ A' w 3 (.tmp 56) _ _ _ Tryz.underlying3 rfl ((whole_belowM HGq.out HLw).cell 0) q56) ⟨_, rfl, rfl, LeavesE.plain (apP_below HRb.out) (Below.refl _ _) (by decide)⟩
        · have q57 : A'.eval (.tmp 57) = .int .i64 (na : Int) := (hsee 57 2 (by kernel_rfl) (by kernel_rfl)).2 (want_free (by kernel_rfl))
          have HLw := hT.fact 1 rfl (by simp [((hT.none_of (j := 8) (hT.none_of (j := 7) hei (by kernel_rfl)) (by kernel_rfl)) : e 8 = none)]) (by simp) rfl
          refine wp_of_callL _ _ _ _ _ _ _ 46 _ [.tmp 57] [.int .i64 (na : Int)] (by simp [q57]) rfl ?_
          refine (itoa_any na HNn.out.1 w (HTq.out.below HLw)).mono ?_
          rintro e' w2 ⟨rfl, hb2⟩
          exact ⟨_, rfl, _, rfl, rfl, LeavesE.plain (apP_below HRb.out) hb2 (by decide)⟩
        · exact wp_of_runL (rField _ _ _ _ _ A' w 46 (.tmp 6) 1 g6 0 1 _ _ Tryz.underlying46 rfl (by kernel_rfl) rfl (by kernel_rfl) q6) ⟨_, rfl, rfl, LeavesE.plain (apP_below HRb.out) (Below.refl _ _) (by decide)⟩
        · have q59 : A'.eval (.tmp 59) = .pointer (some ⟨g6, 1, none⟩) := (hsee 59 4 (by kernel_rfl) (by kernel_rfl)).2 (want_free (by kernel_rfl))
          have HLw := hT.fact 1 rfl (by simp [((hT.none_of (j := 8) (hT.none_of (j := 7) (hT.none_of (j := 6) hei (by kernel_rfl)) (by kernel_rfl)) (by kernel_rfl)) : e 8 = none)]) (by simp) rfl
          exact wp_of_runL (rLoad1 _ _ _ _ _ A' w 3 (.tmp 59) _ _ _ Tryz.underlying3 rfl ((whole_belowM HGq.out HLw).cell 1) q59) ⟨_, rfl, rfl, LeavesE.plain (apP_below HRb.out) (Below.refl _ _) (by decide)⟩
        · have q60 : A'.eval (.tmp 60) = .int .i64 (nb : Int) := (hsee 60 5 (by kernel_rfl) (by kernel_rfl)).2 (want_free (by kernel_rfl))
          have HLw := hT.fact 1 rfl (by simp [((hT.none_of (j := 8) (hT.none_of (j := 7) hei (by kernel_rfl)) (by kernel_rfl)) : e 8 = none)]) (by simp) rfl
          refine wp_of_callL _ _ _ _ _ _ _ 46 _ [.tmp 60] [.int .i64 (nb : Int)] (by simp [q60]) rfl ?_
          refine (itoa_any nb HNn.out.2 w (HTq.out.below HLw)).mono ?_
          rintro e' w2 ⟨rfl, hb2⟩
          exact ⟨_, rfl, _, rfl, rfl, LeavesE.plain (apP_below HRb.out) hb2 (by decide)⟩
        · have q58 : A'.eval (.tmp 58) = .string ⟨(Lib.decDigits na).toArray⟩ := (hsee 58 3 (by kernel_rfl) (by kernel_rfl)).2 (want_free (by kernel_rfl))
          have q61 : A'.eval (.tmp 61) = .string ⟨(Lib.decDigits nb).toArray⟩ := (hsee 61 6 (by kernel_rfl) (by kernel_rfl)).2 (want_free (by kernel_rfl))
          exact wp_of_runL (run_twoS _ _ _ _ _ A' w 58 61 _ _ q58 q61) ⟨_, rfl, trivial, LeavesE.below (apP_below HRb.out) ((Below.refl _ _).alloc (Nat.le_refl _) _) (ap_new_build (by decide) (by decide) _ (Whole.new _ _ _))⟩
        · have q55 : A'.eval (.tmp 55) = lv := (hsee 55 0 (by kernel_rfl) (by kernel_rfl)).2 (want_free (by kernel_rfl))
          have f7 : e 7 = some (A'.eval (.tmp 62)) := (hsee 62 7 (by kernel_rfl) (by kernel_rfl)).1
          have ho := hT.fact 2 rfl (by simp [hei]) (by simp) rfl
          obtain ⟨g, h1, h2⟩ := hT.fact 3 rfl (by simp [hei]) (by simp [f7]) rfl
          rw [valOf_some f7] at h1
          have h0 := hT.fact 0 rfl (by simp) (by simp) rfl
          obtain ⟨v, w', hr, hn, hg⟩ := run_appS _ ho h0.2 HLs.out h2
          exact wp_of_runL (run_appTwo _ _ _ _ _ A' w w' 55 62 _ _ _ _ q55 h1 hr) ⟨_, rfl, trivial, ap_leaves_app HRg.out (by decide) (by decide) (hT.none_of hei (by kernel_rfl)) h0 ho hn hg⟩
        · have f8 : e 8 = some (A'.eval (.tmp 63)) := (hsee 63 8 (by kernel_rfl) (by kernel_rfl)).1
          exact wp_of_runL (rAssign _ _ _ _ _ A' w (.tmp 63) _ rfl) ⟨_, rfl, trivial, LeavesE.below (apP_below HRb.out) (Below.refl _ _) (ap_new_assign (by decide) (by decide) f8)⟩
      intro e wz hT hall
      obtain ⟨v0, e0⟩ := hall 0 (by decide)
      obtain ⟨v1, e1⟩ := hall 1 (by decide)
      obtain ⟨v2, e2⟩ := hall 2 (by decide)
      obtain ⟨v3, e3⟩ := hall 3 (by decide)
      obtain ⟨v4, e4⟩ := hall 4 (by decide)
      obtain ⟨v5, e5⟩ := hall 5 (by decide)
      obtain ⟨v6, e6⟩ := hall 6 (by decide)
      obtain ⟨v7, e7⟩ := hall 7 (by decide)
      obtain ⟨v8, e8⟩ := hall 8 (by decide)
      obtain ⟨v9, e9⟩ := hall 9 (by decide)
      have hF0 := hT.fact 0 rfl (by simp) (by simp) (by kernel_rfl)
      simp only [apP] at hF0
      have hF4 := hT.fact 4 rfl (by simp) (by simp [e8]) (by kernel_rfl)
      simp only [apP, valOf_some e8] at hF4
      have hF5 := hT.fact 5 rfl (by simp) (by simp [e8, e9]) (by kernel_rfl)
      simp only [apP, valOf_some e8, valOf_some e9] at hF5
      have hF6 := hT.fact 6 rfl (by simp) (by simp) (by kernel_rfl)
      simp only [apP] at hF6
      simp only [List.length_cons, List.length_nil, Nat.reduceAdd, fillTo, e0, e1, e2, e3, e4, e5, e6, e7, e8, e9, dstOf]
      clear e0 e1 e2 e3 e4 e5 e6 e7 e8 e9 hT hall
      have HF0 := Lib.hid hF0
      subst hF5
      have HF4 := Lib.hid hF4
      have HF6 := Lib.hid hF6
      clear hF0 hF4 hF6
      go_simp
      go_wp2_with fail
      go_round
      case rel => exact ⟨2, _, by omega, by go_num, rfl, Lib.hid ⟨⟨HBq.out.1.trans HF0.out.1, HF0.out.2⟩, by rw [HNx.out]; exact HF4.out, HF6.out⟩⟩
      case measure => simp [intOf]
    · obtain ⟨na, nb, Hab⟩ : ∃ na nb, Hid (na = a4 ∧ nb = a5) := ⟨_, _, Lib.hid ⟨rfl, rfl⟩⟩
      obtain ⟨ss, Hss⟩ : ∃ s, Hid (s = rows 2) := ⟨_, Lib.hid rfl⟩
      rw [← Hss.out] at HQ
      have HNx : Hid (rows 3 = ss ++ [Lib.decDigits na, Lib.decDigits nb]) := Lib.hid (by rw [HR3.out, Hss.out, Hab.out.1, Hab.out.2])
      have HNn : Hid (na ≤ 140737488355328 ∧ nb ≤ 140737488355328) := Lib.hid (by have := Hbnd.out; have := Hab.out; omega)
      have HLs : Hid (ss.length + [Lib.decDigits na, Lib.decDigits nb].length ≤ 1000000) := Lib.hid (by have := HRl.out 2; rw [← Hss.out] at this; simp; omega)
      have cA : wr.cell? ⟨g49, 4, none⟩ = some (.int .i64 (na : Int)) := by rw [HQ.out.2.2.cell, Harr.out, Hab.out.1]; rfl
      have cB : wr.cell? ⟨g49, 5, none⟩ = some (.int .i64 (nb : Int)) := by rw [HQ.out.2.2.cell, Harr.out, Hab.out.2]; rfl
      replace HRg := Lib.hid (HRg.out ss)
      obtain ⟨g6, Hg6⟩ : ∃ x, Hid (x = wr.heap.size) := ⟨_, Lib.hid rfl⟩
      obtain ⟨wq, Hwq⟩ : ∃ x, Hid (x = wr.alloc (.cells #[.int .i64 (na : Int), .int .i64 (nb : Int)] 46)) := ⟨_, Lib.hid rfl⟩
      have hbq : Below wr.heap.size wr wq := by rw [Hwq.out]; exact (Below.refl _ _).alloc (Nat.le_refl _) _
      have HGq : Hid (Whole wq g6 46 #[.int .i64 (na : Int), .int .i64 (nb : Int)]) := Lib.hid (by rw [Hwq.out, Hg6.out]; exact Whole.new _ _ _)
      have HBq : Hid (Below B W wq ∧ B ≤ wq.heap.size) := Lib.hid ⟨below_low HQ.out.1.1 HQ.out.1.2 hbq, Nat.le_trans HQ.out.1.2 hbq.size⟩
      have HOq : Hid (OwnS B wq lv ss) := Lib.hid (by have h := HQ.out.2.1; exact (h.below hbq))
      have HRq : Hid (Whole wq g49 46 arr) := Lib.hid (whole_belowM HQ.out.2.2 hbq)
      have HTq : Hid (Tab wq) := Lib.hid (HTW.out wq (by have h := HBq.out.1; rw [HBb.out] at h; exact h))
      clear hbq
      go_wp2_with fail
      rw [← Hwq.out, ← Hg6.out]
      clear cA cB
      apply wp_region_entE 77 (apK 8 7 9) (apP B wq (fun w => Whole w g49 46 arr) lv ss [Lib.decDigits na, Lib.decDigits nb] 8 7 9) (etrV g6 na nb lv) apP_cg (by kernel_rfl) (by kernel_rfl) rfl (apP_zero HRb.out HRq.out HBq.out.2 HOq.out)
      · intro i o ho e w A' hT hei hwn hsee haway
        have q6 : A'.eval (.tmp 6) = .pointer (some ⟨g6, 0, none⟩) := (haway 6 (by kernel_rfl)).trans rfl
        have hi : i < 10 := by have := (List.getElem?_eq_some_iff.1 ho).1; simpa using this
        have hi : i = 0 ∨ i = 1 ∨ i = 2 ∨ i = 3 ∨ i = 4 ∨ i = 5 ∨ i = 6 ∨ i = 7 ∨ i = 8 ∨ i = 9 := by omega
        rcases hi with rfl | rfl | rfl | rfl | rfl | rfl | rfl | rfl | rfl | rfl
        all_goals
          simp only [List.getElem?_cons_succ, List.getElem?_cons_zero, Option.some.injEq] at ho
          subst ho
        · have q4 : A'.eval (.tmp 4) = lv := (haway 4 (by kernel_rfl)).trans rfl
          exact wp_of_runL (rMove _ _ _ _ _ A' w (.tmp 4) _ q4) ⟨_, rfl, rfl, LeavesE.plain (apP_below HRb.out) (Below.refl _ _) (by decide)⟩
        · exact wp_of_runL (rField _ _ _ _ _ A' w 46 (.tmp 6) 0 g6 0 0 _ _ Tryz.underlying46 rfl (by kernel_rfl) rfl (by kernel_rfl) q6) ⟨_, rfl, rfl, LeavesE.plain (apP_below HRb.out) (Below.refl _ _) (by decide)⟩
        · have q56 : A'.eval (.tmp 56) = .pointer (some ⟨g6, 0, none⟩) := (hsee 56 1 (by kernel_rfl) (by kernel_rfl)).2 (want_free (by kernel_rfl))
          have HLw := hT.fact 1 rfl (by simp [((hT.none_of (j := 8) (hT.none_of (j := 7) (hT.none_of (j := 3) hei (by kernel_rfl)) (by kernel_rfl)) (by kernel_rfl)) : e 8 = none)]) (by simp) rfl
          exact wp_of_runL (rLoad1 _ _ _ _ _ A' w 3 (.tmp 56) _ _ _ Tryz.underlying3 rfl ((whole_belowM HGq.out HLw).cell 0) q56) ⟨_, rfl, rfl, LeavesE.plain (apP_below HRb.out) (Below.refl _ _) (by decide)⟩
        · have q57 : A'.eval (.tmp 57) = .int .i64 (na : Int) := (hsee 57 2 (by kernel_rfl) (by kernel_rfl)).2 (want_free (by kernel_rfl))
          have HLw := hT.fact 1 rfl (by simp [((hT.none_of (j := 8) (hT.none_of (j := 7) hei (by kernel_rfl)) (by kernel_rfl)) : e 8 = none)]) (by simp) rfl
          refine wp_of_callL _ _ _ _ _ _ _ 46 _ [.tmp 57] [.int .i64 (na : Int)] (by simp [q57]) rfl ?_
          refine (itoa_any na HNn.out.1 w (HTq.out.below HLw)).mono ?_
          rintro e' w2 ⟨rfl, hb2⟩
          exact ⟨_, rfl, _, rfl, rfl, LeavesE.plain (apP_below HRb.out) hb2 (by decide)⟩
        · exact wp_of_runL (rField _ _ _ _ _ A' w 46 (.tmp 6) 1 g6 0 1 _ _ Tryz.underlying46 rfl (by kernel_rfl) rfl (by kernel_rfl) q6) ⟨_, rfl, rfl, LeavesE.plain (apP_below HRb.out) (Below.refl _ _) (by decide)⟩
        · have q59 : A'.eval (.tmp 59) = .pointer (some ⟨g6, 1, none⟩) := (hsee 59 4 (by kernel_rfl) (by kernel_rfl)).2 (want_free (by kernel_rfl))
          have HLw := hT.fact 1 rfl (by simp [((hT.none_of (j := 8) (hT.none_of (j := 7) (hT.none_of (j := 6) hei (by kernel_rfl)) (by kernel_rfl)) (by kernel_rfl)) : e 8 = none)]) (by simp) rfl
          exact wp_of_runL (rLoad1 _ _ _ _ _ A' w 3 (.tmp 59) _ _ _ Tryz.underlying3 rfl ((whole_belowM HGq.out HLw).cell 1) q59) ⟨_, rfl, rfl, LeavesE.plain (apP_below HRb.out) (Below.refl _ _) (by decide)⟩
        · have q60 : A'.eval (.tmp 60) = .int .i64 (nb : Int) := (hsee 60 5 (by kernel_rfl) (by kernel_rfl)).2 (want_free (by kernel_rfl))
          have HLw := hT.fact 1 rfl (by simp [((hT.none_of (j := 8) (hT.none_of (j := 7) hei (by kernel_rfl)) (by kernel_rfl)) : e 8 = none)]) (by simp) rfl
          refine wp_of_callL _ _ _ _ _ _ _ 46 _ [.tmp 60] [.int .i64 (nb : Int)] (by simp [q60]) rfl ?_
          refine (itoa_any nb HNn.out.2 w (HTq.out.below HLw)).mono ?_
          rintro e' w2 ⟨rfl, hb2⟩
          exact ⟨_, rfl, _, rfl, rfl, LeavesE.plain (apP_below HRb.out) hb2 (by decide)⟩
        · have q58 : A'.eval (.tmp 58) = .string ⟨(Lib.decDigits na).toArray⟩ := (hsee 58 3 (by kernel_rfl) (by kernel_rfl)).2 (want_free (by kernel_rfl))
          have q61 : A'.eval (.tmp 61) = .string ⟨(Lib.decDigits nb).toArray⟩ := (hsee 61 6 (by kernel_rfl) (by kernel_rfl)).2 (want_free (by kernel_rfl))
          exact wp_of_runL (run_twoS _ _ _ _ _ A' w 58 61 _ _ q58 q61) ⟨_, rfl, trivial, LeavesE.below (apP_below HRb.out) ((Below.refl _ _).alloc (Nat.le_refl _) _) (ap_new_build (by decide) (by decide) _ (Whole.new _ _ _))⟩
        · have q55 : A'.eval (.tmp 55) = lv := (hsee 55 0 (by kernel_rfl) (by kernel_rfl)).2 (want_free (by kernel_rfl))
          have f7 : e 7 = some (A'.eval (.tmp 62)) := (hsee 62 7 (by kernel_rfl) (by kernel_rfl)).1
          have ho := hT.fact 2 rfl (by simp [hei]) (by simp) rfl
          obtain ⟨g, h1, h2⟩ := hT.fact 3 rfl (by simp [hei]) (by simp [f7]) rfl
          rw [valOf_some f7] at h1
          have h0 := hT.fact 0 rfl (by simp) (by simp) rfl
          obtain ⟨v, w', hr, hn, hg⟩ := run_appS _ ho h0.2 HLs.out h2
          exact wp_of_runL (run_appTwo _ _ _ _ _ A' w w' 55 62 _ _ _ _ q55 h1 hr) ⟨_, rfl, trivial, ap_leaves_app HRg.out (by decide) (by decide) (hT.none_of hei (by kernel_rfl)) h0 ho hn hg⟩
        · have f8 : e 8 = some (A'.eval (.tmp 63)) := (hsee 63 8 (by kernel_rfl) (by kernel_rfl)).1
          exact wp_of_runL (rAssign _ _ _ _ _ A' w (.tmp 63) _ rfl) ⟨_, rfl, trivial, LeavesE.below (apP_below HRb.out) (Below.refl _ _) (ap_new_assign (by decide) (by decide) f8)⟩
      intro e wz hT hall
      obtain ⟨v0, e0⟩ := hall 0 (by decide)
      obtain ⟨v1, e1⟩ := hall 1 (by decide)
      obtain ⟨v2, e2⟩ := hall 2 (by decide)
      obtain ⟨v3, e3⟩ := hall 3 (by decide)
      obtain ⟨v4, e4⟩ := hall 4 (by decide)
      obtain ⟨v5, e5⟩ := hall 5 (by decide)
      obtain ⟨v6, e6⟩ := hall 6 (by decide)
      obtain ⟨v7, e7⟩ := hall 7 (by decide)
      obtain ⟨v8, e8⟩ := hall 8 (by decide)
      obtain ⟨v9, e9⟩ := hall 9 (by decide)
      have hF0 := hT.fact 0 rfl (by simp) (by simp) (by kernel_rfl)
      simp only [apP] at hF0
      have hF4 := hT.fact 4 rfl (by simp) (by simp [e8]) (by kernel_rfl)
      simp only [apP, valOf_some e8] at hF4
      have hF5 := hT.fact 5 rfl (by simp) (by simp [e8, e9]) (by kernel_rfl)
      simp only [apP, valOf_some e8, valOf_some e9] at hF5
      have hF6 := hT.fact 6 rfl (by simp) (by simp) (by kernel_rfl)
      simp only [apP] at hF6
      simp only [List.length_cons, List.length_nil, Nat.reduceAdd, fillTo, e0, e1, e2, e3, e4, e5, e6, e7, e8, e9, dstOf]
      clear e0 e1 e2 e3 e4 e5 e6 e7 e8 e9 hT hall
      have HF0 := Lib.hid hF0
      subst hF5
      have HF4 := Lib.hid hF4
      have HF6 := Lib.hid hF6
      clear hF0 hF4 hF6
      go_simp
      go_wp2_with fail
      go_round
      case rel => exact ⟨3, _, by omega, by go_num, rfl, Lib.hid ⟨⟨HBq.out.1.trans HF0.out.1, HF0.out.2⟩, by rw [HNx.out]; exact HF4.out, HF6.out⟩⟩
      case measure => simp [intOf]
    · have HBz : Hid (Below W.heap.size W wr) := Lib.hid (by have h := HQ.out.1.1; rw [HBb.out] at h; exact h)
      have HJ := Lib.hid (join_own B _ (rows 3) (by rw [HR3.out]; simp) (by have := HRl.out 3; omega) wr HQ.out.2.1 (by rw [← HRe.out]; exact HTj.out.2))
      rw [← HRe.out] at HJ
      go_wp2_with fail
      refine HJ.out.mono ?_
      rintro e w8 ⟨rfl, hb8⟩
      have HB8 := Lib.hid (below_step HBz.out hb8)
      clear hb8
      go_wp2_with fail
      go_ret2
      exact ⟨rfl, HB8.out⟩

theorem evText_yes (x : Ev) (hx : Sz x) (hv : Evt.valid x = true) (W : World) (hT : WTab W) (ht : Tab W) :
    Calls Tryz.prog 28 #[.agg (evC x).toArray] W fun e w' => e = .returned (.tuple #[.string ⟨(textE x).toArray⟩, .int .i64 0]) ∧ Below W.heap.size W w' := by
  by_cases h4 : x.op = 4
  · exact evText_run x hx hv h4 W hT ht
  · by_cases h6 : x.op = 6
    · exact evText_note x hx hv h6 W hT ht
    · exact evText_good x hx hv h4 h6 (by have := textE_len hv; omega) W hT ht
end Go.Proofs.YtfkejnnbfneieaaGreatDoor
