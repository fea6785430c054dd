/- The closure of link.Of. -/
import Derived.Test.YtolnpimnoajcaaaLnkHas
namespace Go.Proofs.Ytolnpimnoajcaaa
open Go.RowKit
open Evt Lnk

section
variable (d : Option Tmp) (t : TypeId) (pos : String) (af : Array Edge) (g : Option (Nat × Bool)) (A : Act) (w : World)
theorem wp_of_callL {K : Act → World → Prop} {Q : Exit → Act → World → Prop} (f : FuncId) (ats : Array TypeId) (xs : List Operand) (vs : List Value) (hx : xs.map A.eval = vs)
    (hcf : (callFunc f vs.toArray).run Try.prog w = .ok (.enter f vs.toArray) w) (h : Calls Try.prog f vs.toArray w fun e w' => ∃ v, e = .returned v ∧ K (A.put d v) w') : Oper.wp Try.prog ⟨d, .call { callee := .value (.func f), args := xs.toArray, argTypes := ats }, t, pos, af, g⟩ A w K Q := by
  have e : (execOp A.eval ⟨d, .call { callee := .value (.func f), args := xs.toArray, argTypes := ats }, t, pos, af, g⟩).run Try.prog w = .ok (.enter f vs.toArray) w := by
    have e0 : execOp A.eval ⟨d, .call { callee := .value (.func f), args := xs.toArray, argTypes := ats }, t, pos, af, g⟩ = callFunc f (#[] ++ (xs.toArray.map A.eval) ++ #[]) := rfl
    have e1 : (#[] ++ (xs.toArray.map A.eval) ++ #[] : Array Value) = vs.toArray := by rw [← hx]; simp
    rw [e0, e1]
    exact hcf
  unfold Oper.wp
  rw [e]
  refine h.mono fun e' w' he => ?_
  obtain ⟨v, rfl, hv⟩ := he
  exact hv
end
def o1P (bk off n cap k : Nat) (rep : Value) (ss : List (List UInt8)) (x : ByteArray) (R : Bool) : Nat → Value → World → Prop
  | 0, v, _ => v = .slice (some ⟨bk, off, none⟩) n cap
  | 1, v, _ => v = .int .i64 k
  | 2, v, _ => v = .pointer (some ⟨bk, off + k * 2, none⟩)
  | 3, v, _ => v = rep
  | 4, v, w => IsS w v ss
  | 5, v, _ => v = .string x
  | 6, v, _ => v = .bool R
  | 7, v, _ => v = .bool R
  | _, _, _ => True
theorem o1P_below {bk off n cap k : Nat} {rep : Value} {ss : List (List UInt8)} {x : ByteArray} {R : Bool} : ∀ j u w w', o1P bk off n cap k rep ss x R j u w → Below w.heap.size w w' → o1P bk off n cap k rep ss x R j u w'
  | 0, _, _, _, h, _ => h
  | 1, _, _, _, h, _ => h
  | 2, _, _, _, h, _ => h
  | 3, _, _, _, h, _ => h
  | 4, _, _, _, h, hb => IsS.below h hb
  | 5, _, _, _, h, _ => h
  | 6, _, _, _, h, _ => h
  | 7, _, _, _, h, _ => h
  | _ + 8, _, _, _, _, _ => trivial

set_option maxRecDepth 100000 in
set_option maxHeartbeats 4000000 in
theorem of1_any (l : List Rp) (ao : Option Addr) (cap bl bp : Nat) (x : ByteArray) (k : Nat) (hk : k < l.length) (hl : l.length ≤ 1000000) (W : World) (hi : IsL 2 ElRp W ao l) (hbl : bl < W.heap.size) (hbp : bp < W.heap.size)
    (cl : W.cell? ⟨bl, 0, none⟩ = some (.slice ao l.length cap)) (cp : W.cell? ⟨bp, 0, none⟩ = some (.string x)) :
    Calls Try.prog 31 #[.int .i64 k, .pointer (some ⟨bl, 0, none⟩), .pointer (some ⟨bp, 0, none⟩)] W fun e w' => e = .returned (.bool (decide (bts x ∈ namesR l[k]))) ∧ Below W.heap.size W w' := by
  obtain ⟨bk, off, cs, rfl, hbk, hrg, oo, oc, rfl, hel, hoc1, hoc2⟩ := hi.at hk
  obtain ⟨y, Hy⟩ : ∃ m, Hid (m = l[k]) := ⟨_, Lib.hid rfl⟩
  rw [← Hy.out] at hrg hel hoc1
  rw [← Hy.out]
  obtain ⟨n, Hn⟩ : ∃ m, Hid (m = l.length) := ⟨_, Lib.hid rfl⟩
  rw [← Hn.out] at hk hl cl
  obtain ⟨R, HR⟩ : ∃ b, Hid (b = decide (bts x ∈ namesR y)) := ⟨_, Lib.hid rfl⟩
  rw [← HR.out]
  have c0 := hrg 0 _ rfl
  have c1 := hrg 1 _ rfl
  rw [Nat.add_zero] at c0
  have HNm := Lib.hid (fun (w : World) (hw : Below W.heap.size W w) => repNames_any y oo oc hoc1 hoc2 w (hel.below stEv hw))
  obtain ⟨rep, Hrep⟩ : ∃ v : Value, Hid (v = .agg #[.slice oo y.opts.length oc, .bool y.doubt]) := ⟨_, Lib.hid rfl⟩
  have HC0 := Lib.hid (fun w (hw : Below W.heap.size W w) => (cellB hw hbk).trans c0)
  have HC1 := Lib.hid (fun w (hw : Below W.heap.size W w) => (cellB hw hbk).trans c1)
  have HCl := Lib.hid (fun w (hw : Below W.heap.size W w) => (cellB hw hbl).trans cl)
  have HCp := Lib.hid (fun w (hw : Below W.heap.size W w) => (cellB hw hbp).trans cp)
  clear hi hrg hel c0 c1 cl cp
  go_enter Try.func31, Try.ntmps31
  go_wp2_with fail
  apply wp_region_monoL 12 (o1P bk off n cap k rep (namesR y) x R) o1P_below (by kernel_rfl) (by kernel_rfl) rfl
  · intro i o ho w A' hlow hsee haway
    have s0 : A'.eval (.tmp 0) = .int .i64 k := (haway 0 (by kernel_rfl)).trans rfl
    have s1 : A'.eval (.tmp 1) = .pointer (some ⟨bl, 0, none⟩) := (haway 1 (by kernel_rfl)).trans rfl
    have s2 : A'.eval (.tmp 2) = .pointer (some ⟨bp, 0, none⟩) := (haway 2 (by kernel_rfl)).trans rfl
    have hi : i < 8 := by have := (List.getElem?_eq_some_iff.1 ho).1; simpa using this
    have hi : i = 0 ∨ i = 1 ∨ i = 2 ∨ i = 3 ∨ i = 4 ∨ i = 5 ∨ i = 6 ∨ i = 7 := by omega
    rcases hi with rfl | rfl | rfl | rfl | rfl | rfl | rfl | rfl
    all_goals
      simp only [List.getElem?_cons_succ, List.getElem?_cons_zero, Option.some.injEq] at ho
      subst ho
    · exact wp_of_runL (run_loadO _ _ _ _ _ _ _ _ (Or.inl rfl) 1 _ _ s1 (HCl.out w hlow)) ⟨_, rfl, Below.refl _ _, rfl⟩
    · exact wp_of_runL (run_moveL _ _ _ _ _ _ _ 0 _ s0) ⟨_, rfl, Below.refl _ _, rfl⟩
    · have q0 : A'.eval (.tmp 5) = .slice (some ⟨bk, off, none⟩) n cap := hsee 5 (by decide) 0 rfl
      have q1 : A'.eval (.tmp 6) = .int .i64 k := hsee 6 (by decide) 1 rfl
      exact wp_of_runL (run_indexO _ _ _ _ _ _ _ 5 6 bk off n cap k hk q0 q1) ⟨_, rfl, Below.refl _ _, rfl⟩
    · have q2 : A'.eval (.tmp 7) = .pointer (some ⟨bk, off + k * 2, none⟩) := hsee 7 (by decide) 2 rfl
      exact wp_of_runL (run_loadRp _ _ _ _ _ _ _ 7 bk (off + k * 2) _ _ q2 (HC0.out w hlow) (HC1.out w hlow)) ⟨_, rfl, Below.refl _ _, Hrep.out.symm⟩
    · have q3 : A'.eval (.tmp 8) = rep := hsee 8 (by decide) 3 rfl
      rw [Hrep.out] at q3
      refine wp_of_callL _ _ _ _ _ _ _ 21 _ [.tmp 8] [.agg #[.slice oo y.opts.length oc, .bool y.doubt]] (by simp [q3]) (by kernel_rfl) ?_
      refine (HNm.out w hlow).mono ?_
      rintro e w2 ⟨v, rfl, ho2, hb2⟩
      exact ⟨v, rfl, v, rfl, hb2, IsS.owns ho2⟩
    · exact wp_of_runL (run_loadO _ _ _ _ _ _ _ _ (Or.inr rfl) 2 _ _ s2 (HCp.out w hlow)) ⟨_, rfl, Below.refl _ _, rfl⟩
    · have q4 : IsS w (A'.eval (.tmp 9)) (namesR y) := hsee 9 (by decide) 4 rfl
      have q5 : A'.eval (.tmp 10) = .string x := hsee 10 (by decide) 5 rfl
      obtain ⟨v, hv⟩ : ∃ v, A'.eval (.tmp 9) = v := ⟨_, rfl⟩
      rw [hv] at q4
      refine wp_of_callL _ _ _ _ _ _ _ 32 _ [.tmp 9, .tmp 10] [v, .string x] (by simp [hv, q5]) rfl ?_
      refine (contains_any (namesR y) (by have := namesR_len y; omega) x w v q4).mono ?_
      rintro e w2 ⟨rfl, rfl⟩
      exact ⟨_, rfl, _, rfl, Below.refl _ _, by rw [← HR.out]; rfl⟩
    · have q6 : A'.eval (.tmp 11) = .bool R := hsee 11 (by decide) 6 rfl
      exact wp_of_runL (run_assignL _ _ _ _ _ _ _ 11 _ q6) ⟨_, rfl, Below.refl _ _, rfl⟩
  intro e w5 hlow hall
  obtain ⟨v0, e0, -⟩ := hall 0 (by decide)
  obtain ⟨v1, e1, -⟩ := hall 1 (by decide)
  obtain ⟨v2, e2, -⟩ := hall 2 (by decide)
  obtain ⟨v3, e3, -⟩ := hall 3 (by decide)
  obtain ⟨v4, e4, -⟩ := hall 4 (by decide)
  obtain ⟨v5, e5, -⟩ := hall 5 (by decide)
  obtain ⟨v6, e6, -⟩ := hall 6 (by decide)
  obtain ⟨v7, e7, h7⟩ := hall 7 (by decide)
  have h7' : v7 = .bool R := h7
  subst h7'
  have HB := Lib.hid hlow
  simp only [List.length_cons, List.length_nil, Nat.reduceAdd, fillTo, e0, e1, e2, e3, e4, e5, e6, e7, dstOf]
  clear e0 e1 e2 e3 e4 e5 e6 e7 hlow hall h7
  go_wp2_with fail
  go_ret
  exact ⟨rfl, HB.out⟩
end Go.Proofs.Ytolnpimnoajcaaa
