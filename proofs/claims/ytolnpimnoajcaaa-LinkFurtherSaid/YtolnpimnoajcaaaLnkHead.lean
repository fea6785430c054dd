/- The laws' head. -/
import Derived.Test.YtolnpimnoajcaaaLnkVal
import Derived.Test.YtolnpimnoajcaaaLnkOfA
namespace Go.Proofs.Ytolnpimnoajcaaa
open Go.RowKit
open Evt Lnk

theorem two_newL (W : World) (c1 c2 : Array Value) (t1 t2 : TypeId) : Whole ((W.alloc (.cells c1 t1)).alloc (.cells c2 t2)) W.heap.size t1 c1 ∧ Whole ((W.alloc (.cells c1 t1)).alloc (.cells c2 t2)) (W.heap.size + 1) t2 c2 ∧ Below W.heap.size W ((W.alloc (.cells c1 t1)).alloc (.cells c2 t2)) := by
  have s1 : (W.alloc (.cells c1 t1)).heap.size = W.heap.size + 1 := size_alloc _ _
  refine ⟨(Whole.new _ _ _).alloc _, ?_, ((Below.refl _ _).alloc (Nat.le_refl _) _).alloc (by rw [s1]; omega) _⟩
  have := Whole.new (W.alloc (.cells c1 t1)) t2 c2
  rw [s1] at this
  exact this
/-- A report of one event, as made lays it. -/
def Rp1 (e : Ev) (d : Bool) (u : Value) (w : World) : Prop := ∃ g, u = .agg #[.slice (some ⟨g, 0, none⟩) 1 1, .bool d] ∧ Whole w g 52 (evC e).toArray
theorem Rp1.below {e : Ev} {d : Bool} {u : Value} {w w' : World} (h : Rp1 e d u w) (hb : Below w.heap.size w w') : Rp1 e d u w' := by
  obtain ⟨g, h1, h2⟩ := h
  exact ⟨g, h1, whole_belowM h2 hb⟩
theorem Rp1.el {e : Ev} {d : Bool} {a b : Value} {w : World} (h : Rp1 e d (.agg #[a, b]) w) (hz : Sz e) : ElRp w [a, b] ⟨[e], d⟩ := by
  obtain ⟨g, h1, h2⟩ := h
  injection h1 with h1
  injection h1 with h1
  rw [h1]
  refine ⟨some ⟨g, 0, none⟩, 1, rfl, IsL.whole (t := 52) (css := [evC e]) (by simpa using h2) rfl (by simp [evC_len]) ?_, by simp, by decide⟩
  intro k hk hk'
  obtain rfl : k = 0 := by simp at hk; exact hk
  exact ⟨rfl, hz⟩
def hdP : Nat → Value → World → Prop
  | 0, v, w => Rp1 (mkEv sA) false v w
  | 1, v, w => Rp1 (mkEv sB) false v w
  | 2, v, w => Rp1 fitE true v w
  | 3, v, w => Rp1 (mkEv sC) false v w
  | 4, v, w => ∃ g, v = .slice (some ⟨g, 0, none⟩) 4 4 ∧ IsL 2 ElRp w (some ⟨g, 0, none⟩) headL
  | 5, v, w => ∃ g, v = .slice (some ⟨g, 0, none⟩) 4 4 ∧ IsL 2 ElRp w (some ⟨g, 0, none⟩) headL
  | _, _, _ => True
theorem hdP_below : ∀ j u w w', hdP j u w → Below w.heap.size w w' → hdP j u w'
  | 0, _, _, _, h, hb => h.below hb
  | 1, _, _, _, h, hb => h.below hb
  | 2, _, _, _, h, hb => h.below hb
  | 3, _, _, _, h, hb => h.below hb
  | 4, _, _, _, ⟨g, h1, h2⟩, hb => ⟨g, h1, h2.below stRp hb⟩
  | 5, _, _, _, ⟨g, h1, h2⟩, hb => ⟨g, h1, h2.below stRp hb⟩
  | _ + 6, _, _, _, _, _ => trivial
section
variable (d : Option Tmp) (t : TypeId) (pos : String) (af : Array Edge) (g : Option (Nat × Bool)) (A : Act) (w : World)
set_option maxRecDepth 100000 in
theorem run_fourR (x y z u : Tmp) (a0 a1 b0 b1 c0 c1 d0 d1 : Value) (hx : A.eval (.tmp x) = .agg #[a0, a1]) (hy : A.eval (.tmp y) = .agg #[b0, b1]) (hz : A.eval (.tmp z) = .agg #[c0, c1]) (hu : A.eval (.tmp u) = .agg #[d0, d1]) :
    (execOp A.eval ⟨d, .buildSlice 22 4 #[(0, .tmp x), (1, .tmp y), (2, .tmp z), (3, .tmp u)], t, pos, af, g⟩).run Try.prog w = .ok (.value (.slice (some ⟨w.heap.size, 0, none⟩) 4 4)) (w.alloc (.cells #[a0, a1, b0, b1, c0, c1, d0, d1] 40)) := by
  unfold execOp
  simp only [hx, hy, hz, hu, List.map_toArray, List.map_cons, List.map_nil]
  go_simp
end
theorem Rp1.shape {e : Ev} {d : Bool} {u : Value} {w : World} (h : Rp1 e d u w) : ∃ a b, u = .agg #[a, b] := by
  obtain ⟨g, rfl, _⟩ := h
  exact ⟨_, _, rfl⟩
theorem headIs {w : World} {a0 a1 b0 b1 c0 c1 d0 d1 : Value} (h0 : Rp1 (mkEv sA) false (.agg #[a0, a1]) w) (h1 : Rp1 (mkEv sB) false (.agg #[b0, b1]) w) (h2 : Rp1 fitE true (.agg #[c0, c1]) w) (h3 : Rp1 (mkEv sC) false (.agg #[d0, d1]) w) :
    IsL 2 ElRp (w.alloc (.cells #[a0, a1, b0, b1, c0, c1, d0, d1] 40)) (some ⟨w.heap.size, 0, none⟩) headL := by
  have hb : Below w.heap.size w (w.alloc (.cells #[a0, a1, b0, b1, c0, c1, d0, d1] 40)) := (Below.refl _ _).alloc (Nat.le_refl _) _
  refine IsL.whole (t := 40) (css := [[a0, a1], [b0, b1], [c0, c1], [d0, d1]]) (Whole.new _ _ _) rfl (by simp) ?_
  intro k hk hk'
  have hk4 : k < 4 := hk
  have c : k = 0 ∨ k = 1 ∨ k = 2 ∨ k = 3 := by omega
  rcases c with rfl | rfl | rfl | rfl
  · exact (h0.below hb).el (sz_mk (by unfold St sA; decide))
  · exact (h1.below hb).el (sz_mk (by unfold St sB; decide))
  · exact (h2.below hb).el sz_fit
  · exact (h3.below hb).el (sz_mk (by unfold St sC; decide))
theorem isN_whole {w : World} {b c : Nat} {l : List Nat} (h : Whole w b 3 (natC l).toArray) : IsN w (.slice (some ⟨b, 0, none⟩) l.length c) l :=
  ⟨_, c, rfl, fun j hj => ⟨b, rfl, h.lt, by rw [h.cell]; unfold natC; simp [hj]⟩⟩
set_option maxRecDepth 100000 in
theorem lit_nn (w : World) : IsNN (((w.alloc (.cells #[.int .i64 0, .int .i64 2, .int .i64 3] 3)).alloc (.cells #[.int .i64 1] 3)).alloc (.cells #[.slice (some ⟨w.heap.size, 0, none⟩) 3 3, .slice (some ⟨w.heap.size + 1, 0, none⟩) 1 1] 29)) (.slice (some ⟨w.heap.size + 1 + 1, 0, none⟩) 2 2) [[0, 2, 3], [1]] ∧
    Below w.heap.size w (((w.alloc (.cells #[.int .i64 0, .int .i64 2, .int .i64 3] 3)).alloc (.cells #[.int .i64 1] 3)).alloc (.cells #[.slice (some ⟨w.heap.size, 0, none⟩) 3 3, .slice (some ⟨w.heap.size + 1, 0, none⟩) 1 1] 29)) := by
  obtain ⟨p1, p2, p3⟩ := two_newL w #[.int .i64 0, .int .i64 2, .int .i64 3] #[.int .i64 1] 3 3
  obtain ⟨v, hv⟩ : ∃ v, v = (w.alloc (.cells #[.int .i64 0, .int .i64 2, .int .i64 3] 3)).alloc (.cells #[.int .i64 1] 3) := ⟨_, rfl⟩
  have s2 : v.heap.size = w.heap.size + 1 + 1 := by rw [hv, size_alloc, size_alloc]
  rw [← hv] at p1 p2 p3 ⊢
  have p4 := Whole.new v 29 #[.slice (some ⟨w.heap.size, 0, none⟩) 3 3, .slice (some ⟨w.heap.size + 1, 0, none⟩) 1 1]
  rw [s2] at p4
  refine ⟨⟨_, 2, rfl, fun j hj => ?_⟩, below_alloc p3 _⟩
  have hj2 : j < 2 := hj
  have c : j = 0 ∨ j = 1 := by omega
  rcases c with rfl | rfl
  · exact ⟨_, _, rfl, p4.lt, p4.cell 0, isN_whole (l := [0, 2, 3]) (p1.alloc _)⟩
  · exact ⟨_, _, rfl, p4.lt, p4.cell 1, isN_whole (l := [1]) (p2.alloc _)⟩

set_option maxRecDepth 100000 in
set_option maxHeartbeats 8000000 in
theorem head_any (W : World) : Calls Try.prog 10 #[] W fun e w' => e = .returned (.bool true) ∧ Below W.heap.size W w' := by
  have HMk := Lib.hid (@made_any)
  have HCm := Lib.hid (fun ao w (h : IsL 2 ElRp w ao headL) => comp_any coll_any ao headL 4 (by decide) w h)
  have HOf := Lib.hid (fun ao x w (h : IsL 2 ElRp w ao headL) => linkOf_any headL ao 4 x (by decide) w h)
  have HDb := Lib.hid (fun ao w (h : IsL 2 ElRp w ao headL) => doubts_any ao headL 4 (by decide) w h)
  rw [show headL.length = 4 from rfl] at HCm HOf HDb
  obtain ⟨S, HS⟩ : ∃ n, Hid (n = W.heap.size) := ⟨_, Lib.hid rfl⟩
  obtain ⟨p1, p2, p3⟩ := two_newL W (evC fitE).toArray #[.slice (some ⟨W.heap.size, 0, none⟩) 1 1, .bool true] 52 40
  obtain ⟨V, HV⟩ : ∃ v, Hid (v = (W.alloc (.cells (evC fitE).toArray 52)).alloc (.cells #[.slice (some ⟨W.heap.size, 0, none⟩) 1 1, .bool true] 40)) := ⟨_, Lib.hid rfl⟩
  rw [← HV.out] at p1 p2 p3
  have HP := Lib.hid (And.intro p1 (And.intro p2 p3))
  clear p1 p2 p3
  go_enter Try.func10, Try.ntmps10
  go_wp2_with fail
  rw [show (#[Value.int .i64 2, .int .i64 0, .string ⟨#[97]⟩, .string ⟨#[]⟩, .string ⟨#[99]⟩, .string ⟨#[115]⟩, .string ⟨#[]⟩, .string ⟨#[]⟩, .int .i64 0, .int .i64 0, .int .i64 0, .int .i64 0, .int .i64 0, .int .i64 0] : Array Value) = (evC fitE).toArray from rfl, ← HV.out]
  apply wp_region_monoL 34 hdP hdP_below (by kernel_rfl) (by kernel_rfl) rfl
  · intro i o ho w A' hlow hsee haway
    have s1 : A'.eval (.tmp 1) = .pointer (some ⟨W.heap.size + 1, 0, none⟩) := (haway 1 (by kernel_rfl)).trans rfl
    have hi : i < 6 := by have := (List.getElem?_eq_some_iff.1 ho).1; simpa using this
    have hi : i = 0 ∨ i = 1 ∨ i = 2 ∨ i = 3 ∨ i = 4 ∨ i = 5 := by omega
    rcases hi with rfl | rfl | rfl | rfl | rfl | rfl
    all_goals
      simp only [List.getElem?_cons_succ, List.getElem?_cons_zero, Option.some.injEq] at ho
      subst ho
    · refine wp_of_callL _ _ _ _ _ _ _ 24 _ [.const (.string ⟨#[97]⟩)] [.string sA] rfl rfl ((HMk.out _ _).mono ?_)
      rintro e w2 ⟨g, rfl, hw, _, hb⟩
      exact ⟨_, rfl, _, rfl, hb, g, rfl, hw⟩
    · refine wp_of_callL _ _ _ _ _ _ _ 24 _ [.const (.string ⟨#[98]⟩)] [.string sB] rfl rfl ((HMk.out _ _).mono ?_)
      rintro e w2 ⟨g, rfl, hw, _, hb⟩
      exact ⟨_, rfl, _, rfl, hb, g, rfl, hw⟩
    · have q := whole_belowM HP.out.2.1 hlow
      exact wp_of_runL (run_loadRp _ _ _ _ _ _ _ 1 _ 0 _ _ s1 (q.cell 0) (q.cell 1)) ⟨_, rfl, Below.refl _ _, _, rfl, whole_belowM HP.out.1 hlow⟩
    · refine wp_of_callL _ _ _ _ _ _ _ 24 _ [.const (.string ⟨#[99]⟩)] [.string sC] rfl rfl ((HMk.out _ _).mono ?_)
      rintro e w2 ⟨g, rfl, hw, _, hb⟩
      exact ⟨_, rfl, _, rfl, hb, g, rfl, hw⟩
    · have q0 : Rp1 (mkEv sA) false (A'.eval (.tmp 6)) w := hsee 6 (by decide) 0 rfl
      have q1 : Rp1 (mkEv sB) false (A'.eval (.tmp 7)) w := hsee 7 (by decide) 1 rfl
      have q2 : Rp1 fitE true (A'.eval (.tmp 8)) w := hsee 8 (by decide) 2 rfl
      have q3 : Rp1 (mkEv sC) false (A'.eval (.tmp 9)) w := hsee 9 (by decide) 3 rfl
      obtain ⟨a0, a1, e0⟩ := q0.shape
      obtain ⟨b0, b1, e1⟩ := q1.shape
      obtain ⟨c0, c1, e2⟩ := q2.shape
      obtain ⟨d0, d1, e3⟩ := q3.shape
      rw [e0] at q0
      rw [e1] at q1
      rw [e2] at q2
      rw [e3] at q3
      exact wp_of_runL (run_fourR _ _ _ _ _ _ _ 6 7 8 9 _ _ _ _ _ _ _ _ e0 e1 e2 e3) ⟨_, rfl, (Below.refl _ _).alloc (Nat.le_refl _) _, _, rfl, headIs q0 q1 q2 q3⟩
    · obtain ⟨g, q4, q5⟩ : ∃ g, A'.eval (.tmp 10) = .slice (some ⟨g, 0, none⟩) 4 4 ∧ IsL 2 ElRp w (some ⟨g, 0, none⟩) headL := hsee 10 (by decide) 4 rfl
      exact wp_of_runL (run_assignL _ _ _ _ _ _ _ 10 _ q4) ⟨_, rfl, Below.refl _ _, g, rfl, q5⟩
  intro e w5 hlow hall
  obtain ⟨v0, e0, -⟩ := hall 0 (by decide)
  obtain ⟨v1, e1, -⟩ := hall 1 (by decide)
  obtain ⟨v2, e2, -⟩ := hall 2 (by decide)
  obtain ⟨v3, e3, -⟩ := hall 3 (by decide)
  obtain ⟨v4, e4, -⟩ := hall 4 (by decide)
  obtain ⟨v5, e5, g, rfl, hl⟩ := hall 5 (by decide)
  have HB := Lib.hid (below_step HP.out.2.2 hlow)
  have HL := Lib.hid hl
  simp only [List.length_cons, List.length_nil, Nat.reduceAdd, fillTo, e0, e1, e2, e3, e4, e5, dstOf]
  clear e0 e1 e2 e3 e4 e5 hlow hall hl
  go_wp2_with fail
  refine (HCm.out _ _ HL.out).mono ?_
  rintro e w6 ⟨sv, r, rfl, hr, hs, hb⟩
  have hg := headG hr
  rw [show headL.length = 4 from rfl, hg] at hs
  have HNN := Lib.hid (IsNN.sets hs)
  have HB6 := Lib.hid (below_step HB.out hb)
  have HL6 := Lib.hid (HL.out.below stRp hb)
  clear hr hs hb hg
  obtain ⟨Z, HZ⟩ : ∃ v, Hid (v = ((w6.alloc (.cells #[.int .i64 0, .int .i64 2, .int .i64 3] 3)).alloc (.cells #[.int .i64 1] 3)).alloc (.cells #[.slice (some ⟨w6.heap.size, 0, none⟩) 3 3, .slice (some ⟨w6.heap.size + 1, 0, none⟩) 1 1] 29)) := ⟨_, Lib.hid rfl⟩
  have hz := lit_nn w6
  rw [← HZ.out] at hz
  have HZ2 := Lib.hid hz
  clear hz
  go_wp2_with fail
  rw [← HZ.out]
  refine (same_any [[0, 2, 3], [1]] [[0, 2, 3], [1]] (by decide) (by decide) (by decide) (by decide) _ _ _ (HNN.out.below HZ2.out.2) HZ2.out.1).mono ?_
  rintro e w7 ⟨rfl, hb⟩
  have HB7 := Lib.hid (below_step (below_step HB6.out HZ2.out.2) hb)
  have HL7 := Lib.hid ((HL6.out.below stRp HZ2.out.2).below stRp hb)
  clear hb
  rw [show (decide (([[0, 2, 3], [1]] : List (List Nat)) = [[0, 2, 3], [1]])) = true from by decide]
  go_wp2_with fail
  refine (HOf.out _ sC _ HL7.out).mono ?_
  rintro e w8 ⟨ov, r8, rfl, hr, hn, hb⟩
  rw [headOfC hr] at hn
  have HN8 := Lib.hid hn
  have HB8 := Lib.hid (below_step HB7.out hb)
  have HL8 := Lib.hid (HL7.out.below stRp hb)
  clear hr hn hb
  obtain ⟨Y, HY⟩ : ∃ v, Hid (v = w8.alloc (.cells #[.int .i64 0, .int .i64 2, .int .i64 3] 3)) := ⟨_, Lib.hid rfl⟩
  have HY2 : Hid (IsN Y (.slice (some ⟨w8.heap.size, 0, none⟩) 3 3) [0, 2, 3] ∧ Below w8.heap.size w8 Y) := Lib.hid (by rw [HY.out]; exact ⟨isN_whole (l := [0, 2, 3]) (Whole.new _ _ _), (Below.refl _ _).alloc (Nat.le_refl _) _⟩)
  go_wp2_with fail
  rw [← HY.out]
  refine (ints_any [0, 2, 3] [0, 2, 3] (by decide) (by decide) _ _ _ (HN8.out.below HY2.out.2) HY2.out.1).mono ?_
  rintro e w9 ⟨rfl, hb⟩
  have HB9 := Lib.hid (below_step (below_step HB8.out HY2.out.2) hb)
  have HL9 := Lib.hid ((HL8.out.below stRp HY2.out.2).below stRp hb)
  clear hb
  rw [show (decide (([0, 2, 3] : List Nat) = [0, 2, 3])) = true from by decide]
  go_wp2_with fail
  refine (HOf.out _ sX _ HL9.out).mono ?_
  rintro e wa ⟨ox, ra, rfl, hr, hn, hb⟩
  rw [headOfX hr] at hn
  have HBa := Lib.hid (below_step HB9.out hb)
  have HLa := Lib.hid (HL9.out.below stRp hb)
  obtain ⟨ao, c, rfl, -⟩ := hn
  rw [show (([] : List Nat).length) = 0 from rfl]
  clear hr hb
  go_wp2_with fail
  refine (HDb.out _ _ HLa.out).mono ?_
  rintro e wb ⟨rfl, hb⟩
  have HBb := Lib.hid (below_step HBa.out hb)
  clear hb
  rw [headD]
  go_wp2_with fail
  go_ret
  exact ⟨rfl, HBb.out⟩
end Go.Proofs.Ytolnpimnoajcaaa
