/- ConcedeMore. -/
import Derived.Test.YtapjnbofhdljfaaConMoreMath
import Derived.Test.YtapjnbofhdljfaaEntGuard
namespace Go.Proofs.Ytapjnbofhdljfaa
open Go.RowKit
open Cat

theorem info_sub : (Try.prog.info? 51).map (fun i => (i.zero, i.size, i.bytes)) = some (some (.agg #[.string ⟨#[]⟩, .string ⟨#[]⟩, .string ⟨#[]⟩, .string ⟨#[]⟩, .int .i64 0]), 5, 72) := by kernel_rfl
theorem info_con : (Try.prog.info? 56).map (fun i => (i.zero, i.size, i.bytes)) = some (some (.agg #[.string ⟨#[]⟩, .string ⟨#[]⟩, .int .i64 0]), 3, 40) := by kernel_rfl

/-- Where the two lists lie behind each other, on the way. -/
def Nil0 (B : Nat) (te : TypeId) (v : Value) (w : World) : Prop := ∃ g, v = .slice (some ⟨g, 0, none⟩) 0 0 ∧ B ≤ g ∧ Whole w g te #[]
def One0 {α : Type} (B size : Nat) (te : TypeId) (El : World → List Value → α → Prop) (l : List α) (n : Nat) (v : Value) (w : World) : Prop := ∃ css, w.ownsRow B te size v n css.flatten ∧ Says size El w css l
def Both0 {α : Type} (size : Nat) (El : World → List Value → α → Prop) (l : List α) (n : Nat) (v : Value) (w : World) : Prop := ∃ ao cap, v = .slice ao n cap ∧ IsL size El w ao l
theorem Nil0.below {B : Nat} {te : TypeId} {v : Value} {w w' : World} (h : Nil0 B te v w) (hb : Below w.heap.size w w') : Nil0 B te v w' := by
  obtain ⟨g, h1, h2, h3⟩ := h
  exact ⟨g, h1, h2, whole_belowM h3 hb⟩
theorem One0.below {α : Type} {B size : Nat} {te : TypeId} {El : World → List Value → α → Prop} {l : List α} {n : Nat} {v : Value} {w w' : World} (hS : ElStable El) (h : One0 B size te El l n v w) (hb : Below w.heap.size w w') : One0 B size te El l n v w' := by
  obtain ⟨css, h1, h2⟩ := h
  exact ⟨css, owns_belowM h1 hb, h2.below hS hb⟩
theorem Both0.below {α : Type} {size : Nat} {El : World → List Value → α → Prop} {l : List α} {n : Nat} {v : Value} {w w' : World} (hS : ElStable El) (h : Both0 size El l n v w) (hb : Below w.heap.size w w') : Both0 size El l n v w' := by
  obtain ⟨ao, c, h1, h2⟩ := h
  exact ⟨ao, c, h1, h2.below hS hb⟩
def mK : List FactKey := [(none, none), (some 3, some 1), (some 5, some 3), (some 7, some 5), (some 12, some 10), (some 14, some 12), (some 15, some 14)]
def mP (V : World) (subs more : List Sb) (l m : List Cn) : Nat → Value → World → Prop
  | 0, _, w => Below V.heap.size V w
  | 1, v, w => Nil0 V.heap.size 51 v w
  | 2, v, w => One0 V.heap.size 5 51 ElSub subs subs.length v w
  | 3, v, w => Both0 5 ElSub (subs ++ more) (subs.length + more.length) v w
  | 4, v, w => Nil0 V.heap.size 56 v w
  | 5, v, w => One0 V.heap.size 3 56 ElCon l l.length v w
  | 6, v, w => Both0 3 ElCon (l ++ m) (l.length + m.length) v w
  | _, _, _ => True
theorem mP_below {V : World} {subs more : List Sb} {l m : List Cn} : ∀ k u w w', mP V subs more l m k u w → Below w.heap.size w w' → mP V subs more l m k u w'
  | 0, _, _, _, h, hb => below_step h hb
  | 1, _, _, _, h, hb => Nil0.below h hb
  | 2, _, _, _, h, hb => One0.below stSub h hb
  | 3, _, _, _, h, hb => Both0.below stSub h hb
  | 4, _, _, _, h, hb => Nil0.below h hb
  | 5, _, _, _, h, hb => One0.below stCon h hb
  | 6, _, _, _, h, hb => Both0.below stCon h hb
  | _ + 7, _, _, _, _, _ => trivial
def Bo (q : Prop) (x : Bool) (u : Value) : Prop := ∃ b, u = .bool b ∧ (b = x → q)
def mV (cv sv v1 v2 v4 v5 : Value) (part rule : ByteArray) (q1 q2 : Prop) : Nat → Value → Prop
  | 0, u => u = .agg #[cv]
  | 2, u => u = v1
  | 4, u => u = v2
  | 6, u => u = .agg #[sv]
  | 7, u => Bo q1 true u
  | 8, u => Bo q1 false u
  | 9, u => Bo q1 false u
  | 11, u => u = v4
  | 13, u => u = v5
  | 15, u => Bo q2 true u
  | 16, u => Bo q2 false u
  | 17, u => Bo (q1 ∧ q2) false u
  | 18, u => Bo (q1 ∧ q2) false u
  | 19, u => u = .string part
  | 20, u => u = .int .i64 part.size
  | 21, u => u = .string rule
  | 22, u => u = .int .i64 rule.size
  | 23, u => u = .int .i64 ((part.size + rule.size : Nat) : Int)
  | 24, u => Bo True false u
  | 25, u => Bo (q1 ∧ q2) false u
  | _, _ => True

def mL : List FactKey := [(none, none), (some 8, some 6), (some 10, some 8), (some 14, some 10), (some 22, some 20), (some 24, some 22), (some 28, some 24)]
def mQ (V : World) (subs more : List Sb) : Nat → Value → World → Prop
  | 0, _, w => Below V.heap.size V w
  | 1, v, w => Nil0 V.heap.size 51 v w
  | 2, v, w => One0 V.heap.size 5 51 ElSub subs subs.length v w
  | 3, v, w => Both0 5 ElSub (subs ++ more) (subs.length + more.length) v w
  | 4, v, w => Nil0 V.heap.size 51 v w
  | 5, v, w => One0 V.heap.size 5 51 ElSub more more.length v w
  | 6, v, w => Both0 5 ElSub (more ++ subs) (more.length + subs.length) v w
  | _, _, _ => True
theorem mQ_below {V : World} {subs more : List Sb} : ∀ k u w w', mQ V subs more k u w → Below w.heap.size w w' → mQ V subs more k u w'
  | 0, _, _, _, h, hb => below_step h hb
  | 1, _, _, _, h, hb => Nil0.below h hb
  | 2, _, _, _, h, hb => One0.below stSub h hb
  | 3, _, _, _, h, hb => Both0.below stSub h hb
  | 4, _, _, _, h, hb => Nil0.below h hb
  | 5, _, _, _, h, hb => One0.below stSub h hb
  | 6, _, _, _, h, hb => Both0.below stSub h hb
  | _ + 7, _, _, _, _, _ => trivial
def mX (cv sv v1 v2 : Value) (part : ByteArray) (day : Int) (Y : Bool) : Nat → Value → Prop
  | 0, u | 1, u | 2, u | 3, u | 4, u | 16, u | 17, u | 18, u | 30, u | 31, u | 32, u => u = .bool true
  | 5, u | 19, u => u = .agg #[cv]
  | 7, u | 23, u => u = v1
  | 9, u | 21, u => u = v2
  | 11, u | 25, u => u = .agg #[sv]
  | 12, u | 26, u => u = .string part
  | 13, u | 27, u => u = .int .i64 day
  | 14, u | 15, u | 28, u | 29, u => u = .bool Y
  | _, _ => True

set_option maxRecDepth 100000 in
set_option maxHeartbeats 8000000 in
theorem more_any (c : List Knd) (co : Option Addr) (cc : Nat) (hlc : c.length ≤ 9223372036854775807) (subs more : List Sb) (bo eo : Option Addr) (bc ec : Nat) (hlb : subs.length ≤ 1048576) (hle : more.length ≤ 1048576) (s : List Prt) (so : Option Addr) (sc : Nat) (hls : s.length ≤ 9223372036854775807)
    (l m : List Cn) (lo mo : Option Addr) (lc mc : Nat) (hll : l.length ≤ 1048576) (hlm : m.length ≤ 1048576) (part rule : ByteArray) (hpz : part.size ≤ 1048576) (hrz : rule.size ≤ 1048576) (day : Int) (W : World) (hc : IsL 3 ElKnd W co c) (hb : IsL 5 ElSub W bo subs) (he : IsL 5 ElSub W eo more) (hi : IsL 14 ElPrt W so s) (hl : IsL 3 ElCon W lo l) (hm : IsL 3 ElCon W mo m) :
    Calls Try.prog 5 #[.agg #[.slice co c.length cc], .slice bo subs.length bc, .slice eo more.length ec, .agg #[.slice so s.length sc], .slice lo l.length lc, .slice mo m.length mc, .string part, .string rule, .int .i64 day] W fun e w' => e = .returned (.bool true) ∧ Below W.heap.size W w' := by
  have HFew := Lib.hid (fun (ao : Option Addr) (ac : Nat) (w : World) (hw : Below W.heap.size W w) (h : IsL 5 ElSub w ao (subs ++ more)) => few27_any co c cc ao (subs ++ more) ac so s sc hlc (by rw [List.length_append]; omega) hls w (hc.below stKnd hw) h (hi.below stPrt hw))
  have HSh := Lib.hid (fun (ao : Option Addr) (ac : Nat) (w : World) (h : IsL 3 ElCon w ao (l ++ m)) => short_any ao (l ++ m) ac (by rw [List.length_append]; omega) w h)
  rw [List.length_append] at HFew HSh
  have HE1 := Lib.hid (fun (w : World) (hw : Below W.heap.size W w) => exempt_any part rule day lo l lc (by omega) w (hl.below stCon hw))
  have HE2 := Lib.hid (fun (w : World) (hw : Below W.heap.size W w) => exempt_any part rule day mo m mc (by omega) w (hm.below stCon hw))
  have HE3 := Lib.hid (fun (ao : Option Addr) (ac : Nat) (w : World) (h : IsL 3 ElCon w ao (l ++ m)) => exempt_any part rule day ao (l ++ m) ac (by rw [List.length_append]; omega) w h)
  have HE4 := Lib.hid (fun (ao : Option Addr) (ac : Nat) (w : World) (h : IsL 3 ElCon w ao (m ++ l)) => exempt_any part rule day ao (m ++ l) ac (by rw [List.length_append]; omega) w h)
  have HP1 := Lib.hid (fun (hf : FewProps s) (w : World) (hw : Below W.heap.size W w) => permitted_any co c cc bo subs bc so s sc part day hlc (by omega) hf w (hc.below stKnd hw) (hb.below stSub hw) (hi.below stPrt hw))
  have HP2 := Lib.hid (fun (hf : FewProps s) (w : World) (hw : Below W.heap.size W w) => permitted_any co c cc eo more ec so s sc part day hlc (by omega) hf w (hc.below stKnd hw) (he.below stSub hw) (hi.below stPrt hw))
  have HP3 := Lib.hid (fun (hf : FewProps s) (ao : Option Addr) (ac : Nat) (w : World) (hw : Below W.heap.size W w) (h : IsL 5 ElSub w ao (subs ++ more)) => permitted_any co c cc ao (subs ++ more) ac so s sc part day hlc (by rw [List.length_append]; omega) hf w (hc.below stKnd hw) h (hi.below stPrt hw))
  have HP4 := Lib.hid (fun (hf : FewProps s) (ao : Option Addr) (ac : Nat) (w : World) (hw : Below W.heap.size W w) (h : IsL 5 ElSub w ao (more ++ subs)) => permitted_any co c cc ao (more ++ subs) ac so s sc part day hlc (by rw [List.length_append]; omega) hf w (hc.below stKnd hw) h (hi.below stPrt hw))
  rw [List.length_append, Con.exempt_more] at HE3
  rw [List.length_append, Con.exempt_swap] at HE4
  rw [List.length_append, Con.permitted_more] at HP3
  rw [List.length_append, Con.permitted_swap] at HP4
  obtain ⟨x1, Hx1⟩ : ∃ x, Hid (x = Con.exempt l part rule day) := ⟨_, Lib.hid rfl⟩
  obtain ⟨x2, Hx2⟩ : ∃ x, Hid (x = Con.exempt m part rule day) := ⟨_, Lib.hid rfl⟩
  obtain ⟨y1, Hy1⟩ : ∃ x, Hid (x = Con.permitted c subs s part day) := ⟨_, Lib.hid rfl⟩
  obtain ⟨y2, Hy2⟩ : ∃ x, Hid (x = Con.permitted c more s part day) := ⟨_, Lib.hid rfl⟩
  rw [← Hx1.out] at HE1
  rw [← Hx2.out] at HE2
  rw [← Hx1.out, ← Hx2.out] at HE3 HE4
  rw [← Hy1.out] at HP1
  rw [← Hy2.out] at HP2
  rw [← Hy1.out, ← Hy2.out] at HP3 HP4
  have HH := Lib.hid head_any
  have HBs := Lib.hid hb
  have HEs := Lib.hid he
  have HLs := Lib.hid hl
  have HMs := Lib.hid hm
  obtain ⟨cn, Hcn⟩ : ∃ n, Hid (n = c.length) := ⟨_, Lib.hid rfl⟩
  obtain ⟨sn, Hsn⟩ : ∃ n, Hid (n = s.length) := ⟨_, Lib.hid rfl⟩
  rw [← Hcn.out, ← Hsn.out] at HFew HP1 HP2 HP3 HP4
  rw [← Hcn.out, ← Hsn.out]
  clear hc hi hb he hl hm
  obtain ⟨i1, hi1, hy0, hy1, hy2⟩ := infoP info_sub
  obtain ⟨i2, hi2, hz0, hz1, hz2⟩ := infoP info_con
  obtain ⟨N, HN⟩ : ∃ N, Hid (N = W.heap.size) := ⟨_, Lib.hid rfl⟩
  obtain ⟨V, HV⟩ : ∃ w, Hid (w = (W.alloc (.cells #[.slice co cn cc] 24)).alloc (.cells #[.slice so sn sc] 28)) := ⟨_, Lib.hid rfl⟩
  have HB : Hid (Below W.heap.size W V) := Lib.hid (by rw [HV.out]; exact below_alloc ((Below.refl _ _).alloc (Nat.le_refl _) _) _)
  have v0 : V.cell? ⟨N, 0, none⟩ = some (.slice co cn cc) := by rw [HV.out, HN.out]; go_simp
  have v1 : V.cell? ⟨N + 1, 0, none⟩ = some (.slice so sn sc) := by rw [HV.out, HN.out]; go_simp
  have l0 := lt_of_cell v0
  have l1 := lt_of_cell v1
  go_enter Try.func5, Try.ntmps5
  go_wp2_with fail
  rw [← HN.out, ← HV.out]
  refine (HH.out V).mono ?_
  rintro e w1 ⟨rfl, hb1⟩
  have HB1 := Lib.hid hb1
  have d0 := (cellB hb1 l0).trans v0
  have d1 := (cellB hb1 l1).trans v1
  have L0 := lt_of_cell d0
  have L1 := lt_of_cell d1
  have HBs1 := Lib.hid (HBs.out.below stSub (below_step HB.out hb1))
  have HEs1 := Lib.hid (HEs.out.below stSub (below_step HB.out hb1))
  have HLs1 := Lib.hid (HLs.out.below stCon (below_step HB.out hb1))
  have HMs1 := Lib.hid (HMs.out.below stCon (below_step HB.out hb1))
  have HW1 := Lib.hid (below_step HB.out hb1)
  clear hb1
  go_wp2_with fail
  apply wp_region_guard 133 mK (mP w1 subs more l m) (mV (.slice co cn cc) (.slice so sn sc) (.slice bo subs.length bc) (.slice eo more.length ec) (.slice lo l.length lc) (.slice mo m.length mc) part rule (subs.length + more.length ≤ 20 ∧ sn ≤ 24 ∧ ∀ p ∈ s, p.props.length ≤ 65) (l.length + m.length ≤ 40)) (by kernel_rfl) (by kernel_rfl) rfl
  · intro j t hj
    match j, hj with
    | 0, _ => exact (Below.refl _ _).drew
    | 1, hj | 2, hj | 3, hj | 4, hj | 5, hj | 6, hj => simp [mK] at hj
    | _ + 7, hj => simp [mK] at hj
  · intro i o ho' e w A' hT hei hwn hsee haway
    have hlow : Below w1.heap.size w1 w := hT.base 0 none rfl (fun _ h => by cases h)
    have sees := sees_same hwn hsee
    have hi : i < 26 := by have := (List.getElem?_eq_some_iff.1 ho').1; simpa using this
    have hi : i = 0 ∨ i = 1 ∨ i = 2 ∨ i = 3 ∨ i = 4 ∨ i = 5 ∨ i = 6 ∨ i = 7 ∨ i = 8 ∨ i = 9 ∨ i = 10 ∨ i = 11 ∨ i = 12 ∨ i = 13 ∨ i = 14 ∨ i = 15 ∨ i = 16 ∨ i = 17 ∨ i = 18 ∨ i = 19 ∨ i = 20 ∨ i = 21 ∨ i = 22 ∨ i = 23 ∨ i = 24 ∨ i = 25 := by omega
    rcases hi with rfl | rfl | rfl | rfl | rfl | rfl | rfl | rfl | rfl | rfl | rfl | rfl | rfl | rfl | rfl | rfl | rfl | rfl | rfl | rfl | rfl | rfl | rfl | rfl | rfl | rfl
    all_goals
      simp only [List.getElem?_cons_succ, List.getElem?_cons_zero, Option.some.injEq] at ho'
      subst ho'
    · have h9 : A'.eval (.tmp 9) = .pointer (some ⟨N, 0, none⟩) := (haway 9 (by kernel_rfl)).trans rfl
      exact wp_of_run (run_load_cat _ _ _ _ _ _ _ 9 N _ h9 ((cellB hlow L0).trans d0)) ⟨_, rfl, rfl, .plain mP_below (Below.refl _ _) (by decide)⟩
    · refine wp_of_run (run_none_subs _ _ _ _ _ _ _) ⟨_, rfl, trivial, .below mP_below ((Below.refl _ _).alloc (Nat.le_refl _) _) ?_⟩
      intro j t hj
      match j, hj with
      | 1, _ => exact ⟨_, rfl, hlow.size, Whole.new _ _ _⟩
      | 0, hj | 2, hj | 3, hj | 4, hj | 5, hj | 6, hj => simp [mK] at hj
      | _ + 7, hj => simp [mK] at hj
    · have h1 : A'.eval (.tmp 1) = .slice bo subs.length bc := (haway 1 (by kernel_rfl)).trans rfl
      exact wp_of_run (run_move _ _ _ _ _ _ _ 1 _ h1) ⟨_, rfl, rfl, .plain mP_below (Below.refl _ _) (by decide)⟩
    · obtain ⟨g, q1, q2, q3⟩ := hT.of 1 (some 3) 1 rfl (fun j h => by cases h; exact hei) _ (hsee 25 1 (by kernel_rfl) rfl).1 (fun g b h => by cases h)
      have q4 : A'.eval (.tmp 26) = .slice bo subs.length bc := sees 26 2 (by kernel_rfl) rfl
      obtain ⟨v, w', css, hr, r1, r2, r3⟩ := run_copy_list 25 Try.underlying25 hi1 hy0 hy1 hy2 rfl (by decide) stSub lenSub g q3 w1.heap.size q2 subs subs.length rfl (by unfold maxLen; omega) (by omega) bo bc (HBs1.out.below stSub hlow)
      refine wp_of_run (run_append_two _ _ _ _ _ _ _ w' 25 26 _ _ _ _ q1 q4 hr) ⟨_, rfl, trivial, .below mP_below r3 ?_⟩
      intro j t hj
      match j, hj with
      | 2, _ => exact ⟨css, r1, r2⟩
      | 0, hj | 1, hj | 3, hj | 4, hj | 5, hj | 6, hj => simp [mK] at hj
      | _ + 7, hj => simp [mK] at hj
    · have h0 : A'.eval (.tmp 2) = .slice eo more.length ec := (haway 2 (by kernel_rfl)).trans rfl
      exact wp_of_run (run_move _ _ _ _ _ _ _ 2 _ h0) ⟨_, rfl, rfl, .plain mP_below (Below.refl _ _) (by decide)⟩
    · obtain ⟨css, q1, q2⟩ := hT.of 2 (some 5) 3 rfl (fun j h => by cases h; exact hei) _ (hsee 27 3 (by kernel_rfl) rfl).1 (fun g b h => by cases h)
      have q4 : A'.eval (.tmp 28) = .slice eo more.length ec := sees 28 4 (by kernel_rfl) rfl
      obtain ⟨v, w', dss, hr, r1, r2, r3⟩ := run_more_list 25 Try.underlying25 hi1 hy0 hy1 hy2 rfl (by decide) plainSub lenSub w1.heap.size hlow.size subs more subs.length more.length rfl _ css q1 q2 (by unfold maxLen; omega) (by omega) eo ec (HEs1.out.below stSub hlow)
      refine wp_of_run (run_append_two _ _ _ _ _ _ _ w' 27 28 _ _ _ _ rfl q4 hr) ⟨_, rfl, trivial, ?_, ?_⟩
      · obtain ⟨ro, rc, rfl⟩ := owns_shapeM r1
        intro j t hj
        match j, hj with
        | 3, _ => exact ⟨ro, rc, rfl, r2.row r1 (by rw [List.length_append])⟩
        | 0, hj | 1, hj | 2, hj | 4, hj | 5, hj | 6, hj => simp [mK] at hj
        | _ + 7, hj => simp [mK] at hj
      · intro j p hj h1 h2 h3 h4 h5 u hu
        match j, hj, hu with
        | 0, _, hu => exact Below.trans hu r3
        | 1, hj, _ => cases hj; exact absurd (h4 3 rfl) (by rw [(hsee 27 3 (by kernel_rfl) rfl).1]; simp)
        | 2, hj, _ => cases hj; exact absurd rfl h1
        | 3, hj, _ => cases hj; exact absurd rfl h2
        | 4, hj, _ => cases hj; exact absurd hei (hT.set [9, 8, 7, 5] 10 (h5 10 rfl) (by kernel_rfl) 5 rfl)
        | 5, hj, _ => cases hj; exact absurd hei (hT.set [9, 8, 7, 5] 12 (h5 12 rfl) (by kernel_rfl) 5 rfl)
        | 6, hj, _ => cases hj; exact absurd hei (hT.set [9, 8, 7, 5] 14 (h5 14 rfl) (by kernel_rfl) 5 rfl)
        | _ + 7, _, _ => trivial
    · have h0 : A'.eval (.tmp 12) = .pointer (some ⟨N + 1, 0, none⟩) := (haway 12 (by kernel_rfl)).trans rfl
      exact wp_of_run (run_load_state _ _ _ _ _ _ _ 12 (N + 1) _ h0 ((cellB hlow L1).trans d1)) ⟨_, rfl, rfl, .plain mP_below (Below.refl _ _) (by decide)⟩
    · have q24 : A'.eval (.tmp 24) = .agg #[.slice co cn cc] := sees 24 0 (by kernel_rfl) rfl
      have q30 : A'.eval (.tmp 30) = .agg #[.slice so sn sc] := sees 30 6 (by kernel_rfl) rfl
      obtain ⟨ao, cap, q5, q6⟩ := hT.of 3 (some 7) 5 rfl (fun j h => by cases h; exact hei) _ (hsee 29 5 (by kernel_rfl) rfl).1 (fun g b h => by cases h)
      refine wp_of_callN _ _ _ _ _ _ _ 10 _ [.tmp 24, .tmp 29, .tmp 30] [_, _, _] (by simp only [List.map_cons, List.map_nil]; rw [q24, q5, q30]) (by kernel_rfl) ?_
      refine (HFew.out ao cap w (below_step HW1.out hlow) q6).mono ?_
      rintro e' w' ⟨b, rfl, hq, hb'⟩
      exact ⟨_, rfl, _, rfl, ⟨b, rfl, hq⟩, .plain mP_below hb' (by decide)⟩
    · obtain ⟨b, q, hq⟩ := sees 31 7 (by kernel_rfl) rfl
      exact wp_of_run (run_not _ _ _ _ _ _ _ 31 b q) ⟨_, rfl, ⟨!b, rfl, fun h => hq (by cases b <;> simp_all)⟩, .plain mP_below (Below.refl _ _) (by decide)⟩
    · obtain ⟨b, q, hq⟩ := sees 32 8 (by kernel_rfl) rfl
      exact wp_of_run (run_move _ _ _ _ _ _ _ 32 _ q) ⟨_, rfl, ⟨b, rfl, hq⟩, .plain mP_below (Below.refl _ _) (by decide)⟩
    · refine wp_of_run (run_none_cons _ _ _ _ _ _ _) ⟨_, rfl, trivial, .below mP_below ((Below.refl _ _).alloc (Nat.le_refl _) _) ?_⟩
      intro j t hj
      match j, hj with
      | 4, _ => exact ⟨_, rfl, hlow.size, Whole.new _ _ _⟩
      | 0, hj | 1, hj | 2, hj | 3, hj | 5, hj | 6, hj => simp [mK] at hj
      | _ + 7, hj => simp [mK] at hj
    · have h0 : A'.eval (.tmp 4) = .slice lo l.length lc := (haway 4 (by kernel_rfl)).trans rfl
      exact wp_of_run (run_move _ _ _ _ _ _ _ 4 _ h0) ⟨_, rfl, rfl, .plain mP_below (Below.refl _ _) (by decide)⟩
    · obtain ⟨g, q1, q2, q3⟩ := hT.of 4 (some 12) 10 rfl (fun j h => by cases h; exact hei) _ (hsee 34 10 (by kernel_rfl) rfl).1 (hwn.same (by kernel_rfl))
      have q4 : A'.eval (.tmp 35) = .slice lo l.length lc := sees 35 11 (by kernel_rfl) rfl
      obtain ⟨v, w', css, hr, r1, r2, r3⟩ := run_copy_list 29 Try.underlying29 hi2 hz0 hz1 hz2 rfl (by decide) stCon lenCon g q3 w1.heap.size q2 l l.length rfl (by unfold maxLen; omega) (by omega) lo lc (HLs1.out.below stCon hlow)
      refine wp_of_run (run_append_two _ _ _ _ _ _ _ w' 34 35 _ _ _ _ q1 q4 hr) ⟨_, rfl, trivial, .below mP_below r3 ?_⟩
      intro j t hj
      match j, hj with
      | 5, _ => exact ⟨css, r1, r2⟩
      | 0, hj | 1, hj | 2, hj | 3, hj | 4, hj | 6, hj => simp [mK] at hj
      | _ + 7, hj => simp [mK] at hj
    · have h0 : A'.eval (.tmp 5) = .slice mo m.length mc := (haway 5 (by kernel_rfl)).trans rfl
      exact wp_of_run (run_move _ _ _ _ _ _ _ 5 _ h0) ⟨_, rfl, rfl, .plain mP_below (Below.refl _ _) (by decide)⟩
    · obtain ⟨css, q1, q2⟩ := hT.of 5 (some 14) 12 rfl (fun j h => by cases h; exact hei) _ (hsee 36 12 (by kernel_rfl) rfl).1 (hwn.same (by kernel_rfl))
      have q4 : A'.eval (.tmp 37) = .slice mo m.length mc := sees 37 13 (by kernel_rfl) rfl
      obtain ⟨v, w', dss, hr, r1, r2, r3⟩ := run_more_list 29 Try.underlying29 hi2 hz0 hz1 hz2 rfl (by decide) plainCon lenCon w1.heap.size hlow.size l m l.length m.length rfl _ css q1 q2 (by unfold maxLen; omega) (by omega) mo mc (HMs1.out.below stCon hlow)
      refine wp_of_run (run_append_two _ _ _ _ _ _ _ w' 36 37 _ _ _ _ rfl q4 hr) ⟨_, rfl, trivial, ?_, ?_⟩
      · obtain ⟨ro, rc, rfl⟩ := owns_shapeM r1
        intro j t hj
        match j, hj with
        | 6, _ => exact ⟨ro, rc, rfl, r2.row r1 (by rw [List.length_append])⟩
        | 0, hj | 1, hj | 2, hj | 3, hj | 4, hj | 5, hj => simp [mK] at hj
        | _ + 7, hj => simp [mK] at hj
      · intro j p hj h1 h2 h3 h4 h5 u hu
        match j, hj, hu with
        | 0, _, hu => exact Below.trans hu r3
        | 1, hj, _ => cases hj; exact absurd (h4 3 rfl) (hT.set [8, 7, 5, 3] 9 (by rw [hwn 9 false rfl]; simp) (by kernel_rfl) 3 rfl)
        | 2, hj, _ => cases hj; exact absurd (h4 5 rfl) (hT.set [8, 7, 5] 9 (by rw [hwn 9 false rfl]; simp) (by kernel_rfl) 5 rfl)
        | 3, hj, _ => cases hj; exact absurd (h4 7 rfl) (hT.set [8, 7] 9 (by rw [hwn 9 false rfl]; simp) (by kernel_rfl) 7 rfl)
        | 4, hj, _ => cases hj; exact absurd (h4 12 rfl) (by rw [(hsee 36 12 (by kernel_rfl) rfl).1]; simp)
        | 5, hj, _ => cases hj; exact absurd rfl h1
        | 6, hj, _ => cases hj; exact absurd rfl h2
        | _ + 7, _, _ => trivial
    · obtain ⟨ao, cap, q5, q6⟩ := hT.of 6 (some 15) 14 rfl (fun j h => by cases h; exact hei) _ (hsee 38 14 (by kernel_rfl) rfl).1 (hwn.same (by kernel_rfl))
      refine wp_of_callN _ _ _ _ _ _ _ 11 _ [.tmp 38] [_] (by simp only [List.map_cons, List.map_nil]; rw [q5]) (by kernel_rfl) ?_
      refine (HSh.out ao cap w q6).mono ?_
      rintro e' w' ⟨b, rfl, hq, hb'⟩
      exact ⟨_, rfl, _, rfl, ⟨b, rfl, hq⟩, .plain mP_below hb' (by decide)⟩
    · obtain ⟨b, q, hq⟩ := sees 39 15 (by kernel_rfl) rfl
      exact wp_of_run (run_not _ _ _ _ _ _ _ 39 b q) ⟨_, rfl, ⟨!b, rfl, fun h => hq (by cases b <;> simp_all)⟩, .plain mP_below (Below.refl _ _) (by decide)⟩
    · obtain ⟨b, q, hq⟩ := sees 33 9 (by kernel_rfl) rfl
      have h9 := (hsee 33 9 (by kernel_rfl) rfl).1
      have h16 := (hsee 40 16 (by kernel_rfl) rfl).2
      refine wp_of_run (run_or _ _ _ _ _ _ _ 33 40 b q) ⟨_, rfl, ?_, .plain mP_below (Below.refl _ _) (by decide)⟩
      cases b with
      | true => exact ⟨true, rfl, fun h => by cases h⟩
      | false =>
        obtain ⟨b2, q', hq'⟩ := h16 (fun g b hg => by cases (show some (9, false) = some (g, b) from hg); rw [h9, q])
        exact ⟨b2, q', fun h => ⟨hq rfl, hq' h⟩⟩
    · obtain ⟨b, q, hq⟩ := sees 41 17 (by kernel_rfl) rfl
      exact wp_of_run (run_move _ _ _ _ _ _ _ 41 _ q) ⟨_, rfl, ⟨b, rfl, hq⟩, .plain mP_below (Below.refl _ _) (by decide)⟩
    · have h0 : A'.eval (.tmp 6) = .string part := (haway 6 (by kernel_rfl)).trans rfl
      exact wp_of_run (run_move _ _ _ _ _ _ _ 6 _ h0) ⟨_, rfl, rfl, .plain mP_below (Below.refl _ _) (by decide)⟩
    · have q : A'.eval (.tmp 43) = .string part := sees 43 19 (by kernel_rfl) rfl
      exact wp_of_run (run_len_str _ _ _ _ _ _ _ 43 part q) ⟨_, rfl, rfl, .plain mP_below (Below.refl _ _) (by decide)⟩
    · have h0 : A'.eval (.tmp 7) = .string rule := (haway 7 (by kernel_rfl)).trans rfl
      exact wp_of_run (run_move _ _ _ _ _ _ _ 7 _ h0) ⟨_, rfl, rfl, .plain mP_below (Below.refl _ _) (by decide)⟩
    · have q : A'.eval (.tmp 45) = .string rule := sees 45 21 (by kernel_rfl) rfl
      exact wp_of_run (run_len_str _ _ _ _ _ _ _ 45 rule q) ⟨_, rfl, rfl, .plain mP_below (Below.refl _ _) (by decide)⟩
    · have q : A'.eval (.tmp 44) = .int .i64 part.size := sees 44 20 (by kernel_rfl) rfl
      have q' : A'.eval (.tmp 46) = .int .i64 rule.size := sees 46 22 (by kernel_rfl) rfl
      exact wp_of_run (run_add_int _ _ _ _ _ _ _ 44 46 part.size rule.size (by omega) q q') ⟨_, rfl, rfl, .plain mP_below (Below.refl _ _) (by decide)⟩
    · have q : A'.eval (.tmp 47) = .int .i64 ((part.size + rule.size : Nat) : Int) := sees 47 23 (by kernel_rfl) rfl
      obtain ⟨b, hr⟩ := run_gtr_int _ _ _ _ _ A' w 47 _ 600 q
      exact wp_of_run hr ⟨_, rfl, ⟨b, rfl, fun _ => trivial⟩, .plain mP_below (Below.refl _ _) (by decide)⟩
    · obtain ⟨b, q, hq⟩ := sees 42 18 (by kernel_rfl) rfl
      have h18 := (hsee 42 18 (by kernel_rfl) rfl).1
      have h24 := (hsee 48 24 (by kernel_rfl) rfl).2
      refine wp_of_run (run_or _ _ _ _ _ _ _ 42 48 b q) ⟨_, rfl, ?_, .plain mP_below (Below.refl _ _) (by decide)⟩
      cases b with
      | true => exact ⟨true, rfl, fun h => by cases h⟩
      | false =>
        obtain ⟨b2, q', _⟩ := h24 (fun g b hg => by cases (show some (18, false) = some (g, b) from hg); rw [h18, q])
        exact ⟨b2, q', fun _ => hq rfl⟩
  intro e w2 hT hall
  obtain ⟨v0, h0⟩ := hall 0 (by decide)
  obtain ⟨v1, h1⟩ := hall 1 (by decide)
  obtain ⟨v2, h2⟩ := hall 2 (by decide)
  obtain ⟨v3, h3⟩ := hall 3 (by decide)
  obtain ⟨v4, h4⟩ := hall 4 (by decide)
  obtain ⟨v5, h5⟩ := hall 5 (by decide)
  obtain ⟨v6, h6⟩ := hall 6 (by decide)
  obtain ⟨v7, h7⟩ := hall 7 (by decide)
  obtain ⟨v8, h8⟩ := hall 8 (by decide)
  obtain ⟨v9, h9⟩ := hall 9 (by decide)
  obtain ⟨v10, h10⟩ := hall 10 (by decide)
  obtain ⟨v11, h11⟩ := hall 11 (by decide)
  obtain ⟨v12, h12⟩ := hall 12 (by decide)
  obtain ⟨v13, h13⟩ := hall 13 (by decide)
  obtain ⟨v14, h14⟩ := hall 14 (by decide)
  obtain ⟨v15, h15⟩ := hall 15 (by decide)
  obtain ⟨v16, h16⟩ := hall 16 (by decide)
  obtain ⟨v17, h17⟩ := hall 17 (by decide)
  obtain ⟨v18, h18⟩ := hall 18 (by decide)
  obtain ⟨v19, h19⟩ := hall 19 (by decide)
  obtain ⟨v20, h20⟩ := hall 20 (by decide)
  obtain ⟨v21, h21⟩ := hall 21 (by decide)
  obtain ⟨v22, h22⟩ := hall 22 (by decide)
  obtain ⟨v23, h23⟩ := hall 23 (by decide)
  obtain ⟨v24, h24⟩ := hall 24 (by decide)
  obtain ⟨v25, h25⟩ := hall 25 (by decide)
  obtain ⟨b2, rfl, hq⟩ := hT.pure 25 _ h25 (fun g b h => by cases h)
  have HB2 := Lib.hid (show Below w1.heap.size w1 w2 from hT.base 0 none rfl (fun _ h => by cases h))
  have HQ := Lib.hid hq
  simp only [List.length_cons, List.length_nil, Nat.reduceAdd, fillTo, h0, h1, h2, h3, h4, h5, h6, h7, h8, h9, h10, h11, h12, h13, h14, h15, h16, h17, h18, h19, h20, h21, h22, h23, h24, h25, dstOf]
  clear hT hall hq h0 h1 h2 h3 h4 h5 h6 h7 h8 h9 h10 h11 h12 h13 h14 h15 h16 h17 h18 h19 h20 h21 h22 h23 h24 h25
  go_simp
  cases b2 with
  | true =>
    go_wp2_with fail
    go_ret
    exact ⟨rfl, below_step HW1.out HB2.out⟩
  | false =>
  have HF := Lib.hid (show FewProps s from by
    obtain ⟨⟨q1, q2, q3⟩, _⟩ := HQ.out rfl
    exact ⟨by rw [← Hsn.out]; omega, fun p hp => by have := q3 p hp; omega⟩)
  have HW2 := Lib.hid (below_step HW1.out HB2.out)
  have HD0 := Lib.hid ((cellB HB2.out L0).trans d0)
  have HD1 := Lib.hid ((cellB HB2.out L1).trans d1)
  have HL0 := Lib.hid (Nat.lt_of_lt_of_le L0 HB2.out.size)
  have HL1 := Lib.hid (Nat.lt_of_lt_of_le L1 HB2.out.size)
  have HBs2 := Lib.hid (HBs.out.below stSub HW2.out)
  have HEs2 := Lib.hid (HEs.out.below stSub HW2.out)
  have HLs2 := Lib.hid (HLs.out.below stCon HW2.out)
  have HMs2 := Lib.hid (HMs.out.below stCon HW2.out)
  clear d0 d1 L0 L1 l0 l1
  go_wp2_with fail
  refine (HE1.out w2 HW2.out).mono ?_
  rintro e w3 ⟨rfl, hb3⟩
  have HB3 := Lib.hid hb3
  clear hb3
  cases x1 with
  | true =>
    have HX : Hid ((true || x2) = true) := Lib.hid rfl
    rw [HX.out] at HE3 HE4
    have d0 := (cellB HB3.out HL0.out).trans HD0.out
    have d1 := (cellB HB3.out HL1.out).trans HD1.out
    go_wp2_with fail
    refine (HP1.out HF.out w3 (below_step HW2.out HB3.out)).mono ?_
    rintro e w5 ⟨rfl, hb5⟩
    have HB5 := Lib.hid (below_step HB3.out hb5)
    clear hb5 d0 d1
    cases y1 with
    | true =>
      have HY : Hid ((true || y2) = true) := Lib.hid rfl
      rw [HY.out] at HP3 HP4
      go_wp2_with (at_builtin; (first | refine wpList_of_step (by rfl) (step_copy_list (by rfl) _ _ rfl Try.underlying29 hi2 hz0 hz1 hz2 rfl (by decide) stCon lenCon w5.heap.size rfl (Whole.new _ _ _) w2.heap.size HB5.out.size l l.length rfl (by unfold maxLen; omega) (by omega) lo lc rfl (HLs2.out.below stCon (below_alloc HB5.out _)) ?_) | refine step_copy_list (by rfl) _ _ rfl Try.underlying29 hi2 hz0 hz1 hz2 rfl (by decide) stCon lenCon w5.heap.size rfl (Whole.new _ _ _) w2.heap.size HB5.out.size l l.length rfl (by unfold maxLen; omega) (by omega) lo lc rfl (HLs2.out.below stCon (below_alloc HB5.out _)) ?_); intro v7 w7 css7 r71 r72 r73; have HB7 := Lib.hid (below_step (below_alloc HB5.out _) r73); have HR71 := Lib.hid r71; have HR72 := Lib.hid r72; clear r71 r72 r73; refine Hid.out ?_)
      refine Lib.hid ?_
      go_wp2_with (at_builtin; (first | refine wpList_of_step (by rfl) (step_more_list (by rfl) _ _ rfl Try.underlying29 hi2 hz0 hz1 hz2 rfl (by decide) plainCon lenCon w2.heap.size HB7.out.size l m l.length m.length rfl v7 css7 rfl HR71.out HR72.out (by unfold maxLen; omega) (by omega) mo mc rfl (HMs2.out.below stCon HB7.out) (by rw [List.length_append]) ?_) | refine step_more_list (by rfl) _ _ rfl Try.underlying29 hi2 hz0 hz1 hz2 rfl (by decide) plainCon lenCon w2.heap.size HB7.out.size l m l.length m.length rfl v7 css7 rfl HR71.out HR72.out (by unfold maxLen; omega) (by omega) mo mc rfl (HMs2.out.below stCon HB7.out) (by rw [List.length_append]) ?_); intro ro8 rc8 w8 r81 r82; have HB8 := Lib.hid (HB7.out.trans r82); have HR8 := Lib.hid r81; clear r81 r82)
      refine (HE3.out ro8 rc8 w8 HR8.out).mono ?_
      rintro e w9 ⟨rfl, hb9⟩
      have HB9 := Lib.hid (below_step HB8.out hb9)
      clear hb9 HB8 HR8 HR71 HR72 HB7
      go_wp2_with (at_builtin; (first | refine wpList_of_step (by rfl) (step_copy_list (by rfl) _ _ rfl Try.underlying29 hi2 hz0 hz1 hz2 rfl (by decide) stCon lenCon w9.heap.size rfl (Whole.new _ _ _) w2.heap.size HB9.out.size m m.length rfl (by unfold maxLen; omega) (by omega) mo mc rfl (HMs2.out.below stCon (below_alloc HB9.out _)) ?_) | refine step_copy_list (by rfl) _ _ rfl Try.underlying29 hi2 hz0 hz1 hz2 rfl (by decide) stCon lenCon w9.heap.size rfl (Whole.new _ _ _) w2.heap.size HB9.out.size m m.length rfl (by unfold maxLen; omega) (by omega) mo mc rfl (HMs2.out.below stCon (below_alloc HB9.out _)) ?_); intro v7 w7 css7 r71 r72 r73; have HB7 := Lib.hid (below_step (below_alloc HB9.out _) r73); have HR71 := Lib.hid r71; have HR72 := Lib.hid r72; clear r71 r72 r73; refine Hid.out ?_)
      refine Lib.hid ?_
      go_wp2_with (at_builtin; (first | refine wpList_of_step (by rfl) (step_more_list (by rfl) _ _ rfl Try.underlying29 hi2 hz0 hz1 hz2 rfl (by decide) plainCon lenCon w2.heap.size HB7.out.size m l m.length l.length rfl v7 css7 rfl HR71.out HR72.out (by unfold maxLen; omega) (by omega) lo lc rfl (HLs2.out.below stCon HB7.out) (by rw [List.length_append]) ?_) | refine step_more_list (by rfl) _ _ rfl Try.underlying29 hi2 hz0 hz1 hz2 rfl (by decide) plainCon lenCon w2.heap.size HB7.out.size m l m.length l.length rfl v7 css7 rfl HR71.out HR72.out (by unfold maxLen; omega) (by omega) lo lc rfl (HLs2.out.below stCon HB7.out) (by rw [List.length_append]) ?_); intro ro8 rc8 w8 r81 r82; have HB8 := Lib.hid (HB7.out.trans r82); have HR8 := Lib.hid r81; clear r81 r82)
      refine (HE4.out ro8 rc8 w8 HR8.out).mono ?_
      rintro e w10 ⟨rfl, hb10⟩
      have HB10 := Lib.hid (below_step HB8.out hb10)
      clear hb10 HB8 HR8 HR71 HR72 HB7
      go_wp2_with fail
      have d0 := (cellB HB10.out HL0.out).trans HD0.out
      have d1 := (cellB HB10.out HL1.out).trans HD1.out
      have L0 := lt_of_cell d0
      have L1 := lt_of_cell d1
      apply wp_region_guard 133 mL (mQ w10 subs more) (mX (.slice co cn cc) (.slice so sn sc) (.slice bo subs.length bc) (.slice eo more.length ec) part day (true)) (by kernel_rfl) (by kernel_rfl) rfl
      · intro j t hj
        match j, hj with
        | 0, _ => exact (Below.refl _ _).drew
        | 1, hj | 2, hj | 3, hj | 4, hj | 5, hj | 6, hj => simp [mL] at hj
        | _ + 7, hj => simp [mL] at hj
      · intro i o ho' e w A' hT hei hwn hsee haway
        have hlow : Below w10.heap.size w10 w := hT.base 0 none rfl (fun _ h => by cases h)
        have sees := sees_same hwn hsee
        have hi : i < 33 := by have := (List.getElem?_eq_some_iff.1 ho').1; simpa using this
        have hi : i = 0 ∨ i = 1 ∨ i = 2 ∨ i = 3 ∨ i = 4 ∨ i = 5 ∨ i = 6 ∨ i = 7 ∨ i = 8 ∨ i = 9 ∨ i = 10 ∨ i = 11 ∨ i = 12 ∨ i = 13 ∨ i = 14 ∨ i = 15 ∨ i = 16 ∨ i = 17 ∨ i = 18 ∨ i = 19 ∨ i = 20 ∨ i = 21 ∨ i = 22 ∨ i = 23 ∨ i = 24 ∨ i = 25 ∨ i = 26 ∨ i = 27 ∨ i = 28 ∨ i = 29 ∨ i = 30 ∨ i = 31 ∨ i = 32 := by omega
        rcases hi with rfl | rfl | rfl | rfl | rfl | rfl | rfl | rfl | rfl | rfl | rfl | rfl | rfl | rfl | rfl | rfl | rfl | rfl | rfl | rfl | rfl | rfl | rfl | rfl | rfl | rfl | rfl | rfl | rfl | rfl | rfl | rfl | rfl
        all_goals
          simp only [List.getElem?_cons_succ, List.getElem?_cons_zero, Option.some.injEq] at ho'
          subst ho'
        · have h0 : A'.eval (.tmp 19) = .bool true := (haway 19 (by kernel_rfl)).trans rfl
          exact wp_of_run (run_move _ _ _ _ _ _ _ 19 _ h0) ⟨_, rfl, rfl, .plain mQ_below (Below.refl _ _) (by decide)⟩
        · have h0 : A'.eval (.tmp 101) = .bool true := sees 101 0 (by kernel_rfl) rfl
          exact wp_of_run (run_move _ _ _ _ _ _ _ 101 _ h0) ⟨_, rfl, rfl, .plain mQ_below (Below.refl _ _) (by decide)⟩
        · have h0 : A'.eval (.tmp 22) = .bool true := (haway 22 (by kernel_rfl)).trans rfl
          exact wp_of_run (run_move _ _ _ _ _ _ _ 22 _ h0) ⟨_, rfl, rfl, .plain mQ_below (Below.refl _ _) (by decide)⟩
        · have qa : A'.eval (.tmp 102) = .bool true := sees 102 1 (by kernel_rfl) rfl
          have ha := (hsee 102 1 (by kernel_rfl) rfl).1
          have hb := (hsee 103 2 (by kernel_rfl) rfl).2 (fun g b hg => by cases (show some (1, true) = some (g, b) from hg); rw [ha, qa])
          exact wp_of_run (run_and _ _ _ _ _ _ _ 102 103 true qa) ⟨_, rfl, hb, .plain mQ_below (Below.refl _ _) (by decide)⟩
        · have h0 : A'.eval (.tmp 104) = .bool true := sees 104 3 (by kernel_rfl) rfl
          exact wp_of_run (run_move _ _ _ _ _ _ _ 104 _ h0) ⟨_, rfl, rfl, .plain mQ_below (Below.refl _ _) (by decide)⟩
        · have h0 : A'.eval (.tmp 9) = .pointer (some ⟨N, 0, none⟩) := (haway 9 (by kernel_rfl)).trans rfl
          exact wp_of_run (run_load_cat _ _ _ _ _ _ _ 9 (N) _ h0 ((cellB hlow L0).trans d0)) ⟨_, rfl, rfl, .plain mQ_below (Below.refl _ _) (by decide)⟩
        · refine wp_of_run (run_none_subs _ _ _ _ _ _ _) ⟨_, rfl, trivial, .below mQ_below ((Below.refl _ _).alloc (Nat.le_refl _) _) ?_⟩
          intro j t hj
          match j, hj with
          | 1, _ => exact ⟨_, rfl, hlow.size, Whole.new _ _ _⟩
          | 0, hj | 2, hj | 3, hj | 4, hj | 5, hj | 6, hj => simp [mL] at hj
          | _ + 7, hj => simp [mL] at hj
        · have h0 : A'.eval (.tmp 1) = .slice bo subs.length bc := (haway 1 (by kernel_rfl)).trans rfl
          exact wp_of_run (run_move _ _ _ _ _ _ _ 1 _ h0) ⟨_, rfl, rfl, .plain mQ_below (Below.refl _ _) (by decide)⟩
        · obtain ⟨g, q1, q2, q3⟩ := hT.of 1 (some 8) 6 rfl (fun j h => by cases h; exact hei) _ (hsee 107 6 (by kernel_rfl) rfl).1 (hwn.same (by kernel_rfl))
          have q4 : A'.eval (.tmp 108) = .slice bo subs.length bc := sees 108 7 (by kernel_rfl) rfl
          obtain ⟨v, w', css, hr, r1, r2, r3⟩ := run_copy_list 25 Try.underlying25 hi1 hy0 hy1 hy2 rfl (by decide) stSub lenSub g q3 w10.heap.size q2 subs subs.length rfl (by unfold maxLen; omega) (by omega) bo bc (HBs2.out.below stSub (below_step HB10.out hlow))
          refine wp_of_run (run_append_two _ _ _ _ _ _ _ w' 107 108 _ _ _ _ q1 q4 hr) ⟨_, rfl, trivial, .below mQ_below r3 ?_⟩
          intro j t hj
          match j, hj with
          | 2, _ => exact ⟨css, r1, r2⟩
          | 0, hj | 1, hj | 3, hj | 4, hj | 5, hj | 6, hj => simp [mL] at hj
          | _ + 7, hj => simp [mL] at hj
        · have h0 : A'.eval (.tmp 2) = .slice eo more.length ec := (haway 2 (by kernel_rfl)).trans rfl
          exact wp_of_run (run_move _ _ _ _ _ _ _ 2 _ h0) ⟨_, rfl, rfl, .plain mQ_below (Below.refl _ _) (by decide)⟩
        · obtain ⟨css, q1, q2⟩ := hT.of 2 (some 10) 8 rfl (fun j h => by cases h; exact hei) _ (hsee 109 8 (by kernel_rfl) rfl).1 (hwn.same (by kernel_rfl))
          have q4 : A'.eval (.tmp 110) = .slice eo more.length ec := sees 110 9 (by kernel_rfl) rfl
          obtain ⟨v, w', dss, hr, r1, r2, r3⟩ := run_more_list 25 Try.underlying25 hi1 hy0 hy1 hy2 rfl (by decide) plainSub lenSub w10.heap.size hlow.size subs more subs.length more.length rfl _ css q1 q2 (by unfold maxLen; omega) (by omega) eo ec (HEs2.out.below stSub (below_step HB10.out hlow))
          refine wp_of_run (run_append_two _ _ _ _ _ _ _ w' 109 110 _ _ _ _ rfl q4 hr) ⟨_, rfl, trivial, ?_, ?_⟩
          · obtain ⟨ro, rc, rfl⟩ := owns_shapeM r1
            intro j t hj
            match j, hj with
            | 3, _ => exact ⟨ro, rc, rfl, r2.row r1 (by rw [List.length_append])⟩
            | 0, hj | 1, hj | 2, hj | 4, hj | 5, hj | 6, hj => simp [mL] at hj
            | _ + 7, hj => simp [mL] at hj
          · intro j p hj h1 h2 h3 h4 h5 u hu
            match j, hj, hu with
            | 0, _, hu => exact Below.trans hu r3
            | 1, hj, _ => cases hj; exact absurd (h4 8 rfl) (by rw [(hsee 109 8 (by kernel_rfl) rfl).1]; simp)
            | 2, hj, _ => cases hj; exact absurd rfl h1
            | 3, hj, _ => cases hj; exact absurd rfl h2
            | 4, hj, _ => cases hj; exact absurd hei (hT.set [18, 17, 16, 14, 10] 20 (h5 20 rfl) (by kernel_rfl) 10 rfl)
            | 5, hj, _ => cases hj; exact absurd hei (hT.set [18, 17, 16, 14, 10] 22 (h5 22 rfl) (by kernel_rfl) 10 rfl)
            | 6, hj, _ => cases hj; exact absurd hei (hT.set [18, 17, 16, 14, 10] 24 (h5 24 rfl) (by kernel_rfl) 10 rfl)
            | _ + 7, _, _ => trivial
        · have h0 : A'.eval (.tmp 12) = .pointer (some ⟨N + 1, 0, none⟩) := (haway 12 (by kernel_rfl)).trans rfl
          exact wp_of_run (run_load_state _ _ _ _ _ _ _ 12 (N + 1) _ h0 ((cellB hlow L1).trans d1)) ⟨_, rfl, rfl, .plain mQ_below (Below.refl _ _) (by decide)⟩
        · have h0 : A'.eval (.tmp 6) = .string part := (haway 6 (by kernel_rfl)).trans rfl
          exact wp_of_run (run_move _ _ _ _ _ _ _ 6 _ h0) ⟨_, rfl, rfl, .plain mQ_below (Below.refl _ _) (by decide)⟩
        · have h0 : A'.eval (.tmp 8) = .int .i64 day := (haway 8 (by kernel_rfl)).trans rfl
          exact wp_of_run (run_move _ _ _ _ _ _ _ 8 _ h0) ⟨_, rfl, rfl, .plain mQ_below (Below.refl _ _) (by decide)⟩
        · have qa : A'.eval (.tmp 106) = .agg #[.slice co cn cc] := sees 106 5 (by kernel_rfl) rfl
          have qc : A'.eval (.tmp 112) = .agg #[.slice so sn sc] := sees 112 11 (by kernel_rfl) rfl
          have qd : A'.eval (.tmp 113) = .string part := sees 113 12 (by kernel_rfl) rfl
          have qe : A'.eval (.tmp 114) = .int .i64 day := sees 114 13 (by kernel_rfl) rfl
          obtain ⟨ao, cap, q5, q6⟩ := hT.of 3 (some 14) 10 rfl (fun j h => by cases h; exact hei) _ (hsee 111 10 (by kernel_rfl) rfl).1 (hwn.same (by kernel_rfl))
          refine wp_of_callN _ _ _ _ _ _ _ 14 _ [.tmp 106, .tmp 111, .tmp 112, .tmp 113, .tmp 114] [_, _, _, _, _] (by simp only [List.map_cons, List.map_nil]; rw [qa, q5, qc, qd, qe]) (by kernel_rfl) ?_
          refine (HP3.out HF.out ao cap w (below_step (below_step HW2.out HB10.out) hlow) q6).mono ?_
          rintro e' w' ⟨rfl, hb'⟩
          exact ⟨_, rfl, _, rfl, rfl, .plain mQ_below hb' (by decide)⟩
        · have h0 : A'.eval (.tmp 21) = .bool (true) := (haway 21 (by kernel_rfl)).trans rfl
          exact wp_of_run (run_move _ _ _ _ _ _ _ 21 _ h0) ⟨_, rfl, rfl, .plain mQ_below (Below.refl _ _) (by decide)⟩
        · have qa : A'.eval (.tmp 115) = .bool (true) := sees 115 14 (by kernel_rfl) rfl
          have qb : A'.eval (.tmp 116) = .bool (true) := sees 116 15 (by kernel_rfl) rfl
          exact wp_of_run (run_same _ _ _ _ _ _ _ 115 116 _ _ qa qb) ⟨_, rfl, congrArg Value.bool (by simp), .plain mQ_below (Below.refl _ _) (by decide)⟩
        · have qa : A'.eval (.tmp 105) = .bool true := sees 105 4 (by kernel_rfl) rfl
          have ha := (hsee 105 4 (by kernel_rfl) rfl).1
          have hb := (hsee 117 16 (by kernel_rfl) rfl).2 (fun g b hg => by cases (show some (4, true) = some (g, b) from hg); rw [ha, qa])
          exact wp_of_run (run_and _ _ _ _ _ _ _ 105 117 true qa) ⟨_, rfl, hb, .plain mQ_below (Below.refl _ _) (by decide)⟩
        · have h0 : A'.eval (.tmp 118) = .bool true := sees 118 17 (by kernel_rfl) rfl
          exact wp_of_run (run_move _ _ _ _ _ _ _ 118 _ h0) ⟨_, rfl, rfl, .plain mQ_below (Below.refl _ _) (by decide)⟩
        · have h0 : A'.eval (.tmp 9) = .pointer (some ⟨N, 0, none⟩) := (haway 9 (by kernel_rfl)).trans rfl
          exact wp_of_run (run_load_cat _ _ _ _ _ _ _ 9 (N) _ h0 ((cellB hlow L0).trans d0)) ⟨_, rfl, rfl, .plain mQ_below (Below.refl _ _) (by decide)⟩
        · refine wp_of_run (run_none_subs _ _ _ _ _ _ _) ⟨_, rfl, trivial, .below mQ_below ((Below.refl _ _).alloc (Nat.le_refl _) _) ?_⟩
          intro j t hj
          match j, hj with
          | 4, _ => exact ⟨_, rfl, hlow.size, Whole.new _ _ _⟩
          | 0, hj | 1, hj | 2, hj | 3, hj | 5, hj | 6, hj => simp [mL] at hj
          | _ + 7, hj => simp [mL] at hj
        · have h0 : A'.eval (.tmp 2) = .slice eo more.length ec := (haway 2 (by kernel_rfl)).trans rfl
          exact wp_of_run (run_move _ _ _ _ _ _ _ 2 _ h0) ⟨_, rfl, rfl, .plain mQ_below (Below.refl _ _) (by decide)⟩
        · obtain ⟨g, q1, q2, q3⟩ := hT.of 4 (some 22) 20 rfl (fun j h => by cases h; exact hei) _ (hsee 121 20 (by kernel_rfl) rfl).1 (hwn.same (by kernel_rfl))
          have q4 : A'.eval (.tmp 122) = .slice eo more.length ec := sees 122 21 (by kernel_rfl) rfl
          obtain ⟨v, w', css, hr, r1, r2, r3⟩ := run_copy_list 25 Try.underlying25 hi1 hy0 hy1 hy2 rfl (by decide) stSub lenSub g q3 w10.heap.size q2 more more.length rfl (by unfold maxLen; omega) (by omega) eo ec (HEs2.out.below stSub (below_step HB10.out hlow))
          refine wp_of_run (run_append_two _ _ _ _ _ _ _ w' 121 122 _ _ _ _ q1 q4 hr) ⟨_, rfl, trivial, .below mQ_below r3 ?_⟩
          intro j t hj
          match j, hj with
          | 5, _ => exact ⟨css, r1, r2⟩
          | 0, hj | 1, hj | 2, hj | 3, hj | 4, hj | 6, hj => simp [mL] at hj
          | _ + 7, hj => simp [mL] at hj
        · have h0 : A'.eval (.tmp 1) = .slice bo subs.length bc := (haway 1 (by kernel_rfl)).trans rfl
          exact wp_of_run (run_move _ _ _ _ _ _ _ 1 _ h0) ⟨_, rfl, rfl, .plain mQ_below (Below.refl _ _) (by decide)⟩
        · obtain ⟨css, q1, q2⟩ := hT.of 5 (some 24) 22 rfl (fun j h => by cases h; exact hei) _ (hsee 123 22 (by kernel_rfl) rfl).1 (hwn.same (by kernel_rfl))
          have q4 : A'.eval (.tmp 124) = .slice bo subs.length bc := sees 124 23 (by kernel_rfl) rfl
          obtain ⟨v, w', dss, hr, r1, r2, r3⟩ := run_more_list 25 Try.underlying25 hi1 hy0 hy1 hy2 rfl (by decide) plainSub lenSub w10.heap.size hlow.size more subs more.length subs.length rfl _ css q1 q2 (by unfold maxLen; omega) (by omega) bo bc (HBs2.out.below stSub (below_step HB10.out hlow))
          refine wp_of_run (run_append_two _ _ _ _ _ _ _ w' 123 124 _ _ _ _ rfl q4 hr) ⟨_, rfl, trivial, ?_, ?_⟩
          · obtain ⟨ro, rc, rfl⟩ := owns_shapeM r1
            intro j t hj
            match j, hj with
            | 6, _ => exact ⟨ro, rc, rfl, r2.row r1 (by rw [List.length_append])⟩
            | 0, hj | 1, hj | 2, hj | 3, hj | 4, hj | 5, hj => simp [mL] at hj
            | _ + 7, hj => simp [mL] at hj
          · intro j p hj h1 h2 h3 h4 h5 u hu
            match j, hj, hu with
            | 0, _, hu => exact Below.trans hu r3
            | 1, hj, _ => cases hj; exact absurd (h4 8 rfl) (hT.set [17, 16, 14, 10, 8] 18 (by rw [hwn 18 true rfl]; simp) (by kernel_rfl) 8 rfl)
            | 2, hj, _ => cases hj; exact absurd (h4 10 rfl) (hT.set [17, 16, 14, 10] 18 (by rw [hwn 18 true rfl]; simp) (by kernel_rfl) 10 rfl)
            | 3, hj, _ => cases hj; exact absurd (h4 14 rfl) (hT.set [17, 16, 14] 18 (by rw [hwn 18 true rfl]; simp) (by kernel_rfl) 14 rfl)
            | 4, hj, _ => cases hj; exact absurd (h4 22 rfl) (by rw [(hsee 123 22 (by kernel_rfl) rfl).1]; simp)
            | 5, hj, _ => cases hj; exact absurd rfl h1
            | 6, hj, _ => cases hj; exact absurd rfl h2
            | _ + 7, _, _ => trivial
        · have h0 : A'.eval (.tmp 12) = .pointer (some ⟨N + 1, 0, none⟩) := (haway 12 (by kernel_rfl)).trans rfl
          exact wp_of_run (run_load_state _ _ _ _ _ _ _ 12 (N + 1) _ h0 ((cellB hlow L1).trans d1)) ⟨_, rfl, rfl, .plain mQ_below (Below.refl _ _) (by decide)⟩
        · have h0 : A'.eval (.tmp 6) = .string part := (haway 6 (by kernel_rfl)).trans rfl
          exact wp_of_run (run_move _ _ _ _ _ _ _ 6 _ h0) ⟨_, rfl, rfl, .plain mQ_below (Below.refl _ _) (by decide)⟩
        · have h0 : A'.eval (.tmp 8) = .int .i64 day := (haway 8 (by kernel_rfl)).trans rfl
          exact wp_of_run (run_move _ _ _ _ _ _ _ 8 _ h0) ⟨_, rfl, rfl, .plain mQ_below (Below.refl _ _) (by decide)⟩
        · have qa : A'.eval (.tmp 120) = .agg #[.slice co cn cc] := sees 120 19 (by kernel_rfl) rfl
          have qc : A'.eval (.tmp 126) = .agg #[.slice so sn sc] := sees 126 25 (by kernel_rfl) rfl
          have qd : A'.eval (.tmp 127) = .string part := sees 127 26 (by kernel_rfl) rfl
          have qe : A'.eval (.tmp 128) = .int .i64 day := sees 128 27 (by kernel_rfl) rfl
          obtain ⟨ao, cap, q5, q6⟩ := hT.of 6 (some 28) 24 rfl (fun j h => by cases h; exact hei) _ (hsee 125 24 (by kernel_rfl) rfl).1 (hwn.same (by kernel_rfl))
          refine wp_of_callN _ _ _ _ _ _ _ 14 _ [.tmp 120, .tmp 125, .tmp 126, .tmp 127, .tmp 128] [_, _, _, _, _] (by simp only [List.map_cons, List.map_nil]; rw [qa, q5, qc, qd, qe]) (by kernel_rfl) ?_
          refine (HP4.out HF.out ao cap w (below_step (below_step HW2.out HB10.out) hlow) q6).mono ?_
          rintro e' w' ⟨rfl, hb'⟩
          exact ⟨_, rfl, _, rfl, rfl, .plain mQ_below hb' (by decide)⟩
        · have h0 : A'.eval (.tmp 21) = .bool (true) := (haway 21 (by kernel_rfl)).trans rfl
          exact wp_of_run (run_move _ _ _ _ _ _ _ 21 _ h0) ⟨_, rfl, rfl, .plain mQ_below (Below.refl _ _) (by decide)⟩
        · have qa : A'.eval (.tmp 129) = .bool (true) := sees 129 28 (by kernel_rfl) rfl
          have qb : A'.eval (.tmp 130) = .bool (true) := sees 130 29 (by kernel_rfl) rfl
          exact wp_of_run (run_same _ _ _ _ _ _ _ 129 130 _ _ qa qb) ⟨_, rfl, congrArg Value.bool (by simp), .plain mQ_below (Below.refl _ _) (by decide)⟩
        · have qa : A'.eval (.tmp 119) = .bool true := sees 119 18 (by kernel_rfl) rfl
          have ha := (hsee 119 18 (by kernel_rfl) rfl).1
          have hb := (hsee 131 30 (by kernel_rfl) rfl).2 (fun g b hg => by cases (show some (18, true) = some (g, b) from hg); rw [ha, qa])
          exact wp_of_run (run_and _ _ _ _ _ _ _ 119 131 true qa) ⟨_, rfl, hb, .plain mQ_below (Below.refl _ _) (by decide)⟩
        · have h0 : A'.eval (.tmp 132) = .bool true := sees 132 31 (by kernel_rfl) rfl
          exact wp_of_run (run_assign _ _ _ _ _ _ _ 132 _ h0) ⟨_, rfl, rfl, .plain mQ_below (Below.refl _ _) (by decide)⟩
      intro e w11 hT hall
      obtain ⟨z0, h0⟩ := hall 0 (by decide)
      obtain ⟨z1, h1⟩ := hall 1 (by decide)
      obtain ⟨z2, h2⟩ := hall 2 (by decide)
      obtain ⟨z3, h3⟩ := hall 3 (by decide)
      obtain ⟨z4, h4⟩ := hall 4 (by decide)
      obtain ⟨z5, h5⟩ := hall 5 (by decide)
      obtain ⟨z6, h6⟩ := hall 6 (by decide)
      obtain ⟨z7, h7⟩ := hall 7 (by decide)
      obtain ⟨z8, h8⟩ := hall 8 (by decide)
      obtain ⟨z9, h9⟩ := hall 9 (by decide)
      obtain ⟨z10, h10⟩ := hall 10 (by decide)
      obtain ⟨z11, h11⟩ := hall 11 (by decide)
      obtain ⟨z12, h12⟩ := hall 12 (by decide)
      obtain ⟨z13, h13⟩ := hall 13 (by decide)
      obtain ⟨z14, h14⟩ := hall 14 (by decide)
      obtain ⟨z15, h15⟩ := hall 15 (by decide)
      obtain ⟨z16, h16⟩ := hall 16 (by decide)
      obtain ⟨z17, h17⟩ := hall 17 (by decide)
      obtain ⟨z18, h18⟩ := hall 18 (by decide)
      obtain ⟨z19, h19⟩ := hall 19 (by decide)
      obtain ⟨z20, h20⟩ := hall 20 (by decide)
      obtain ⟨z21, h21⟩ := hall 21 (by decide)
      obtain ⟨z22, h22⟩ := hall 22 (by decide)
      obtain ⟨z23, h23⟩ := hall 23 (by decide)
      obtain ⟨z24, h24⟩ := hall 24 (by decide)
      obtain ⟨z25, h25⟩ := hall 25 (by decide)
      obtain ⟨z26, h26⟩ := hall 26 (by decide)
      obtain ⟨z27, h27⟩ := hall 27 (by decide)
      obtain ⟨z28, h28⟩ := hall 28 (by decide)
      obtain ⟨z29, h29⟩ := hall 29 (by decide)
      obtain ⟨z30, h30⟩ := hall 30 (by decide)
      obtain ⟨z31, h31⟩ := hall 31 (by decide)
      obtain ⟨z32, h32⟩ := hall 32 (by decide)
      obtain rfl := hT.pure 32 _ h32 (fun g b h => by cases h)
      have HB11 := Lib.hid (show Below w10.heap.size w10 w11 from hT.base 0 none rfl (fun _ h => by cases h))
      simp only [List.length_cons, List.length_nil, Nat.reduceAdd, fillTo, h0, h1, h2, h3, h4, h5, h6, h7, h8, h9, h10, h11, h12, h13, h14, h15, h16, h17, h18, h19, h20, h21, h22, h23, h24, h25, h26, h27, h28, h29, h30, h31, h32, dstOf]
      clear hT hall h0 h1 h2 h3 h4 h5 h6 h7 h8 h9 h10 h11 h12 h13 h14 h15 h16 h17 h18 h19 h20 h21 h22 h23 h24 h25 h26 h27 h28 h29 h30 h31 h32 d0 d1 L0 L1
      go_simp
      go_wp2_with fail
      go_ret
      exact ⟨rfl, below_step HW2.out (below_step HB10.out HB11.out)⟩

    | false =>
      have HY : Hid ((false || y2) = y2) := Lib.hid (by simp)
      rw [HY.out] at HP3 HP4
      have d0 := (cellB HB5.out HL0.out).trans HD0.out
      have d1 := (cellB HB5.out HL1.out).trans HD1.out
      go_wp2_with fail
      refine (HP2.out HF.out w5 (below_step HW2.out HB5.out)).mono ?_
      rintro e w6 ⟨rfl, hb6⟩
      have HB6 := Lib.hid (below_step HB5.out hb6)
      clear hb6 d0 d1
      go_wp2_with (at_builtin; (first | refine wpList_of_step (by rfl) (step_copy_list (by rfl) _ _ rfl Try.underlying29 hi2 hz0 hz1 hz2 rfl (by decide) stCon lenCon w6.heap.size rfl (Whole.new _ _ _) w2.heap.size HB6.out.size l l.length rfl (by unfold maxLen; omega) (by omega) lo lc rfl (HLs2.out.below stCon (below_alloc HB6.out _)) ?_) | refine step_copy_list (by rfl) _ _ rfl Try.underlying29 hi2 hz0 hz1 hz2 rfl (by decide) stCon lenCon w6.heap.size rfl (Whole.new _ _ _) w2.heap.size HB6.out.size l l.length rfl (by unfold maxLen; omega) (by omega) lo lc rfl (HLs2.out.below stCon (below_alloc HB6.out _)) ?_); intro v7 w7 css7 r71 r72 r73; have HB7 := Lib.hid (below_step (below_alloc HB6.out _) r73); have HR71 := Lib.hid r71; have HR72 := Lib.hid r72; clear r71 r72 r73; refine Hid.out ?_)
      refine Lib.hid ?_
      go_wp2_with (at_builtin; (first | refine wpList_of_step (by rfl) (step_more_list (by rfl) _ _ rfl Try.underlying29 hi2 hz0 hz1 hz2 rfl (by decide) plainCon lenCon w2.heap.size HB7.out.size l m l.length m.length rfl v7 css7 rfl HR71.out HR72.out (by unfold maxLen; omega) (by omega) mo mc rfl (HMs2.out.below stCon HB7.out) (by rw [List.length_append]) ?_) | refine step_more_list (by rfl) _ _ rfl Try.underlying29 hi2 hz0 hz1 hz2 rfl (by decide) plainCon lenCon w2.heap.size HB7.out.size l m l.length m.length rfl v7 css7 rfl HR71.out HR72.out (by unfold maxLen; omega) (by omega) mo mc rfl (HMs2.out.below stCon HB7.out) (by rw [List.length_append]) ?_); intro ro8 rc8 w8 r81 r82; have HB8 := Lib.hid (HB7.out.trans r82); have HR8 := Lib.hid r81; clear r81 r82)
      refine (HE3.out ro8 rc8 w8 HR8.out).mono ?_
      rintro e w9 ⟨rfl, hb9⟩
      have HB9 := Lib.hid (below_step HB8.out hb9)
      clear hb9 HB8 HR8 HR71 HR72 HB7
      go_wp2_with (at_builtin; (first | refine wpList_of_step (by rfl) (step_copy_list (by rfl) _ _ rfl Try.underlying29 hi2 hz0 hz1 hz2 rfl (by decide) stCon lenCon w9.heap.size rfl (Whole.new _ _ _) w2.heap.size HB9.out.size m m.length rfl (by unfold maxLen; omega) (by omega) mo mc rfl (HMs2.out.below stCon (below_alloc HB9.out _)) ?_) | refine step_copy_list (by rfl) _ _ rfl Try.underlying29 hi2 hz0 hz1 hz2 rfl (by decide) stCon lenCon w9.heap.size rfl (Whole.new _ _ _) w2.heap.size HB9.out.size m m.length rfl (by unfold maxLen; omega) (by omega) mo mc rfl (HMs2.out.below stCon (below_alloc HB9.out _)) ?_); intro v7 w7 css7 r71 r72 r73; have HB7 := Lib.hid (below_step (below_alloc HB9.out _) r73); have HR71 := Lib.hid r71; have HR72 := Lib.hid r72; clear r71 r72 r73; refine Hid.out ?_)
      refine Lib.hid ?_
      go_wp2_with (at_builtin; (first | refine wpList_of_step (by rfl) (step_more_list (by rfl) _ _ rfl Try.underlying29 hi2 hz0 hz1 hz2 rfl (by decide) plainCon lenCon w2.heap.size HB7.out.size m l m.length l.length rfl v7 css7 rfl HR71.out HR72.out (by unfold maxLen; omega) (by omega) lo lc rfl (HLs2.out.below stCon HB7.out) (by rw [List.length_append]) ?_) | refine step_more_list (by rfl) _ _ rfl Try.underlying29 hi2 hz0 hz1 hz2 rfl (by decide) plainCon lenCon w2.heap.size HB7.out.size m l m.length l.length rfl v7 css7 rfl HR71.out HR72.out (by unfold maxLen; omega) (by omega) lo lc rfl (HLs2.out.below stCon HB7.out) (by rw [List.length_append]) ?_); intro ro8 rc8 w8 r81 r82; have HB8 := Lib.hid (HB7.out.trans r82); have HR8 := Lib.hid r81; clear r81 r82)
      refine (HE4.out ro8 rc8 w8 HR8.out).mono ?_
      rintro e w10 ⟨rfl, hb10⟩
      have HB10 := Lib.hid (below_step HB8.out hb10)
      clear hb10 HB8 HR8 HR71 HR72 HB7
      go_wp2_with fail
      have d0 := (cellB HB10.out HL0.out).trans HD0.out
      have d1 := (cellB HB10.out HL1.out).trans HD1.out
      have L0 := lt_of_cell d0
      have L1 := lt_of_cell d1
      apply wp_region_guard 133 mL (mQ w10 subs more) (mX (.slice co cn cc) (.slice so sn sc) (.slice bo subs.length bc) (.slice eo more.length ec) part day (y2)) (by kernel_rfl) (by kernel_rfl) rfl
      · intro j t hj
        match j, hj with
        | 0, _ => exact (Below.refl _ _).drew
        | 1, hj | 2, hj | 3, hj | 4, hj | 5, hj | 6, hj => simp [mL] at hj
        | _ + 7, hj => simp [mL] at hj
      · intro i o ho' e w A' hT hei hwn hsee haway
        have hlow : Below w10.heap.size w10 w := hT.base 0 none rfl (fun _ h => by cases h)
        have sees := sees_same hwn hsee
        have hi : i < 33 := by have := (List.getElem?_eq_some_iff.1 ho').1; simpa using this
        have hi : i = 0 ∨ i = 1 ∨ i = 2 ∨ i = 3 ∨ i = 4 ∨ i = 5 ∨ i = 6 ∨ i = 7 ∨ i = 8 ∨ i = 9 ∨ i = 10 ∨ i = 11 ∨ i = 12 ∨ i = 13 ∨ i = 14 ∨ i = 15 ∨ i = 16 ∨ i = 17 ∨ i = 18 ∨ i = 19 ∨ i = 20 ∨ i = 21 ∨ i = 22 ∨ i = 23 ∨ i = 24 ∨ i = 25 ∨ i = 26 ∨ i = 27 ∨ i = 28 ∨ i = 29 ∨ i = 30 ∨ i = 31 ∨ i = 32 := by omega
        rcases hi with rfl | rfl | rfl | rfl | rfl | rfl | rfl | rfl | rfl | rfl | rfl | rfl | rfl | rfl | rfl | rfl | rfl | rfl | rfl | rfl | rfl | rfl | rfl | rfl | rfl | rfl | rfl | rfl | rfl | rfl | rfl | rfl | rfl
        all_goals
          simp only [List.getElem?_cons_succ, List.getElem?_cons_zero, Option.some.injEq] at ho'
          subst ho'
        · have h0 : A'.eval (.tmp 19) = .bool true := (haway 19 (by kernel_rfl)).trans rfl
          exact wp_of_run (run_move _ _ _ _ _ _ _ 19 _ h0) ⟨_, rfl, rfl, .plain mQ_below (Below.refl _ _) (by decide)⟩
        · have h0 : A'.eval (.tmp 101) = .bool true := sees 101 0 (by kernel_rfl) rfl
          exact wp_of_run (run_move _ _ _ _ _ _ _ 101 _ h0) ⟨_, rfl, rfl, .plain mQ_below (Below.refl _ _) (by decide)⟩
        · have h0 : A'.eval (.tmp 22) = .bool true := (haway 22 (by kernel_rfl)).trans rfl
          exact wp_of_run (run_move _ _ _ _ _ _ _ 22 _ h0) ⟨_, rfl, rfl, .plain mQ_below (Below.refl _ _) (by decide)⟩
        · have qa : A'.eval (.tmp 102) = .bool true := sees 102 1 (by kernel_rfl) rfl
          have ha := (hsee 102 1 (by kernel_rfl) rfl).1
          have hb := (hsee 103 2 (by kernel_rfl) rfl).2 (fun g b hg => by cases (show some (1, true) = some (g, b) from hg); rw [ha, qa])
          exact wp_of_run (run_and _ _ _ _ _ _ _ 102 103 true qa) ⟨_, rfl, hb, .plain mQ_below (Below.refl _ _) (by decide)⟩
        · have h0 : A'.eval (.tmp 104) = .bool true := sees 104 3 (by kernel_rfl) rfl
          exact wp_of_run (run_move _ _ _ _ _ _ _ 104 _ h0) ⟨_, rfl, rfl, .plain mQ_below (Below.refl _ _) (by decide)⟩
        · have h0 : A'.eval (.tmp 9) = .pointer (some ⟨N, 0, none⟩) := (haway 9 (by kernel_rfl)).trans rfl
          exact wp_of_run (run_load_cat _ _ _ _ _ _ _ 9 (N) _ h0 ((cellB hlow L0).trans d0)) ⟨_, rfl, rfl, .plain mQ_below (Below.refl _ _) (by decide)⟩
        · refine wp_of_run (run_none_subs _ _ _ _ _ _ _) ⟨_, rfl, trivial, .below mQ_below ((Below.refl _ _).alloc (Nat.le_refl _) _) ?_⟩
          intro j t hj
          match j, hj with
          | 1, _ => exact ⟨_, rfl, hlow.size, Whole.new _ _ _⟩
          | 0, hj | 2, hj | 3, hj | 4, hj | 5, hj | 6, hj => simp [mL] at hj
          | _ + 7, hj => simp [mL] at hj
        · have h0 : A'.eval (.tmp 1) = .slice bo subs.length bc := (haway 1 (by kernel_rfl)).trans rfl
          exact wp_of_run (run_move _ _ _ _ _ _ _ 1 _ h0) ⟨_, rfl, rfl, .plain mQ_below (Below.refl _ _) (by decide)⟩
        · obtain ⟨g, q1, q2, q3⟩ := hT.of 1 (some 8) 6 rfl (fun j h => by cases h; exact hei) _ (hsee 107 6 (by kernel_rfl) rfl).1 (hwn.same (by kernel_rfl))
          have q4 : A'.eval (.tmp 108) = .slice bo subs.length bc := sees 108 7 (by kernel_rfl) rfl
          obtain ⟨v, w', css, hr, r1, r2, r3⟩ := run_copy_list 25 Try.underlying25 hi1 hy0 hy1 hy2 rfl (by decide) stSub lenSub g q3 w10.heap.size q2 subs subs.length rfl (by unfold maxLen; omega) (by omega) bo bc (HBs2.out.below stSub (below_step HB10.out hlow))
          refine wp_of_run (run_append_two _ _ _ _ _ _ _ w' 107 108 _ _ _ _ q1 q4 hr) ⟨_, rfl, trivial, .below mQ_below r3 ?_⟩
          intro j t hj
          match j, hj with
          | 2, _ => exact ⟨css, r1, r2⟩
          | 0, hj | 1, hj | 3, hj | 4, hj | 5, hj | 6, hj => simp [mL] at hj
          | _ + 7, hj => simp [mL] at hj
        · have h0 : A'.eval (.tmp 2) = .slice eo more.length ec := (haway 2 (by kernel_rfl)).trans rfl
          exact wp_of_run (run_move _ _ _ _ _ _ _ 2 _ h0) ⟨_, rfl, rfl, .plain mQ_below (Below.refl _ _) (by decide)⟩
        · obtain ⟨css, q1, q2⟩ := hT.of 2 (some 10) 8 rfl (fun j h => by cases h; exact hei) _ (hsee 109 8 (by kernel_rfl) rfl).1 (hwn.same (by kernel_rfl))
          have q4 : A'.eval (.tmp 110) = .slice eo more.length ec := sees 110 9 (by kernel_rfl) rfl
          obtain ⟨v, w', dss, hr, r1, r2, r3⟩ := run_more_list 25 Try.underlying25 hi1 hy0 hy1 hy2 rfl (by decide) plainSub lenSub w10.heap.size hlow.size subs more subs.length more.length rfl _ css q1 q2 (by unfold maxLen; omega) (by omega) eo ec (HEs2.out.below stSub (below_step HB10.out hlow))
          refine wp_of_run (run_append_two _ _ _ _ _ _ _ w' 109 110 _ _ _ _ rfl q4 hr) ⟨_, rfl, trivial, ?_, ?_⟩
          · obtain ⟨ro, rc, rfl⟩ := owns_shapeM r1
            intro j t hj
            match j, hj with
            | 3, _ => exact ⟨ro, rc, rfl, r2.row r1 (by rw [List.length_append])⟩
            | 0, hj | 1, hj | 2, hj | 4, hj | 5, hj | 6, hj => simp [mL] at hj
            | _ + 7, hj => simp [mL] at hj
          · intro j p hj h1 h2 h3 h4 h5 u hu
            match j, hj, hu with
            | 0, _, hu => exact Below.trans hu r3
            | 1, hj, _ => cases hj; exact absurd (h4 8 rfl) (by rw [(hsee 109 8 (by kernel_rfl) rfl).1]; simp)
            | 2, hj, _ => cases hj; exact absurd rfl h1
            | 3, hj, _ => cases hj; exact absurd rfl h2
            | 4, hj, _ => cases hj; exact absurd hei (hT.set [18, 17, 16, 14, 10] 20 (h5 20 rfl) (by kernel_rfl) 10 rfl)
            | 5, hj, _ => cases hj; exact absurd hei (hT.set [18, 17, 16, 14, 10] 22 (h5 22 rfl) (by kernel_rfl) 10 rfl)
            | 6, hj, _ => cases hj; exact absurd hei (hT.set [18, 17, 16, 14, 10] 24 (h5 24 rfl) (by kernel_rfl) 10 rfl)
            | _ + 7, _, _ => trivial
        · have h0 : A'.eval (.tmp 12) = .pointer (some ⟨N + 1, 0, none⟩) := (haway 12 (by kernel_rfl)).trans rfl
          exact wp_of_run (run_load_state _ _ _ _ _ _ _ 12 (N + 1) _ h0 ((cellB hlow L1).trans d1)) ⟨_, rfl, rfl, .plain mQ_below (Below.refl _ _) (by decide)⟩
        · have h0 : A'.eval (.tmp 6) = .string part := (haway 6 (by kernel_rfl)).trans rfl
          exact wp_of_run (run_move _ _ _ _ _ _ _ 6 _ h0) ⟨_, rfl, rfl, .plain mQ_below (Below.refl _ _) (by decide)⟩
        · have h0 : A'.eval (.tmp 8) = .int .i64 day := (haway 8 (by kernel_rfl)).trans rfl
          exact wp_of_run (run_move _ _ _ _ _ _ _ 8 _ h0) ⟨_, rfl, rfl, .plain mQ_below (Below.refl _ _) (by decide)⟩
        · have qa : A'.eval (.tmp 106) = .agg #[.slice co cn cc] := sees 106 5 (by kernel_rfl) rfl
          have qc : A'.eval (.tmp 112) = .agg #[.slice so sn sc] := sees 112 11 (by kernel_rfl) rfl
          have qd : A'.eval (.tmp 113) = .string part := sees 113 12 (by kernel_rfl) rfl
          have qe : A'.eval (.tmp 114) = .int .i64 day := sees 114 13 (by kernel_rfl) rfl
          obtain ⟨ao, cap, q5, q6⟩ := hT.of 3 (some 14) 10 rfl (fun j h => by cases h; exact hei) _ (hsee 111 10 (by kernel_rfl) rfl).1 (hwn.same (by kernel_rfl))
          refine wp_of_callN _ _ _ _ _ _ _ 14 _ [.tmp 106, .tmp 111, .tmp 112, .tmp 113, .tmp 114] [_, _, _, _, _] (by simp only [List.map_cons, List.map_nil]; rw [qa, q5, qc, qd, qe]) (by kernel_rfl) ?_
          refine (HP3.out HF.out ao cap w (below_step (below_step HW2.out HB10.out) hlow) q6).mono ?_
          rintro e' w' ⟨rfl, hb'⟩
          exact ⟨_, rfl, _, rfl, rfl, .plain mQ_below hb' (by decide)⟩
        · have h0 : A'.eval (.tmp 21) = .bool (y2) := (haway 21 (by kernel_rfl)).trans rfl
          exact wp_of_run (run_move _ _ _ _ _ _ _ 21 _ h0) ⟨_, rfl, rfl, .plain mQ_below (Below.refl _ _) (by decide)⟩
        · have qa : A'.eval (.tmp 115) = .bool (y2) := sees 115 14 (by kernel_rfl) rfl
          have qb : A'.eval (.tmp 116) = .bool (y2) := sees 116 15 (by kernel_rfl) rfl
          exact wp_of_run (run_same _ _ _ _ _ _ _ 115 116 _ _ qa qb) ⟨_, rfl, congrArg Value.bool (by simp), .plain mQ_below (Below.refl _ _) (by decide)⟩
        · have qa : A'.eval (.tmp 105) = .bool true := sees 105 4 (by kernel_rfl) rfl
          have ha := (hsee 105 4 (by kernel_rfl) rfl).1
          have hb := (hsee 117 16 (by kernel_rfl) rfl).2 (fun g b hg => by cases (show some (4, true) = some (g, b) from hg); rw [ha, qa])
          exact wp_of_run (run_and _ _ _ _ _ _ _ 105 117 true qa) ⟨_, rfl, hb, .plain mQ_below (Below.refl _ _) (by decide)⟩
        · have h0 : A'.eval (.tmp 118) = .bool true := sees 118 17 (by kernel_rfl) rfl
          exact wp_of_run (run_move _ _ _ _ _ _ _ 118 _ h0) ⟨_, rfl, rfl, .plain mQ_below (Below.refl _ _) (by decide)⟩
        · have h0 : A'.eval (.tmp 9) = .pointer (some ⟨N, 0, none⟩) := (haway 9 (by kernel_rfl)).trans rfl
          exact wp_of_run (run_load_cat _ _ _ _ _ _ _ 9 (N) _ h0 ((cellB hlow L0).trans d0)) ⟨_, rfl, rfl, .plain mQ_below (Below.refl _ _) (by decide)⟩
        · refine wp_of_run (run_none_subs _ _ _ _ _ _ _) ⟨_, rfl, trivial, .below mQ_below ((Below.refl _ _).alloc (Nat.le_refl _) _) ?_⟩
          intro j t hj
          match j, hj with
          | 4, _ => exact ⟨_, rfl, hlow.size, Whole.new _ _ _⟩
          | 0, hj | 1, hj | 2, hj | 3, hj | 5, hj | 6, hj => simp [mL] at hj
          | _ + 7, hj => simp [mL] at hj
        · have h0 : A'.eval (.tmp 2) = .slice eo more.length ec := (haway 2 (by kernel_rfl)).trans rfl
          exact wp_of_run (run_move _ _ _ _ _ _ _ 2 _ h0) ⟨_, rfl, rfl, .plain mQ_below (Below.refl _ _) (by decide)⟩
        · obtain ⟨g, q1, q2, q3⟩ := hT.of 4 (some 22) 20 rfl (fun j h => by cases h; exact hei) _ (hsee 121 20 (by kernel_rfl) rfl).1 (hwn.same (by kernel_rfl))
          have q4 : A'.eval (.tmp 122) = .slice eo more.length ec := sees 122 21 (by kernel_rfl) rfl
          obtain ⟨v, w', css, hr, r1, r2, r3⟩ := run_copy_list 25 Try.underlying25 hi1 hy0 hy1 hy2 rfl (by decide) stSub lenSub g q3 w10.heap.size q2 more more.length rfl (by unfold maxLen; omega) (by omega) eo ec (HEs2.out.below stSub (below_step HB10.out hlow))
          refine wp_of_run (run_append_two _ _ _ _ _ _ _ w' 121 122 _ _ _ _ q1 q4 hr) ⟨_, rfl, trivial, .below mQ_below r3 ?_⟩
          intro j t hj
          match j, hj with
          | 5, _ => exact ⟨css, r1, r2⟩
          | 0, hj | 1, hj | 2, hj | 3, hj | 4, hj | 6, hj => simp [mL] at hj
          | _ + 7, hj => simp [mL] at hj
        · have h0 : A'.eval (.tmp 1) = .slice bo subs.length bc := (haway 1 (by kernel_rfl)).trans rfl
          exact wp_of_run (run_move _ _ _ _ _ _ _ 1 _ h0) ⟨_, rfl, rfl, .plain mQ_below (Below.refl _ _) (by decide)⟩
        · obtain ⟨css, q1, q2⟩ := hT.of 5 (some 24) 22 rfl (fun j h => by cases h; exact hei) _ (hsee 123 22 (by kernel_rfl) rfl).1 (hwn.same (by kernel_rfl))
          have q4 : A'.eval (.tmp 124) = .slice bo subs.length bc := sees 124 23 (by kernel_rfl) rfl
          obtain ⟨v, w', dss, hr, r1, r2, r3⟩ := run_more_list 25 Try.underlying25 hi1 hy0 hy1 hy2 rfl (by decide) plainSub lenSub w10.heap.size hlow.size more subs more.length subs.length rfl _ css q1 q2 (by unfold maxLen; omega) (by omega) bo bc (HBs2.out.below stSub (below_step HB10.out hlow))
          refine wp_of_run (run_append_two _ _ _ _ _ _ _ w' 123 124 _ _ _ _ rfl q4 hr) ⟨_, rfl, trivial, ?_, ?_⟩
          · obtain ⟨ro, rc, rfl⟩ := owns_shapeM r1
            intro j t hj
            match j, hj with
            | 6, _ => exact ⟨ro, rc, rfl, r2.row r1 (by rw [List.length_append])⟩
            | 0, hj | 1, hj | 2, hj | 3, hj | 4, hj | 5, hj => simp [mL] at hj
            | _ + 7, hj => simp [mL] at hj
          · intro j p hj h1 h2 h3 h4 h5 u hu
            match j, hj, hu with
            | 0, _, hu => exact Below.trans hu r3
            | 1, hj, _ => cases hj; exact absurd (h4 8 rfl) (hT.set [17, 16, 14, 10, 8] 18 (by rw [hwn 18 true rfl]; simp) (by kernel_rfl) 8 rfl)
            | 2, hj, _ => cases hj; exact absurd (h4 10 rfl) (hT.set [17, 16, 14, 10] 18 (by rw [hwn 18 true rfl]; simp) (by kernel_rfl) 10 rfl)
            | 3, hj, _ => cases hj; exact absurd (h4 14 rfl) (hT.set [17, 16, 14] 18 (by rw [hwn 18 true rfl]; simp) (by kernel_rfl) 14 rfl)
            | 4, hj, _ => cases hj; exact absurd (h4 22 rfl) (by rw [(hsee 123 22 (by kernel_rfl) rfl).1]; simp)
            | 5, hj, _ => cases hj; exact absurd rfl h1
            | 6, hj, _ => cases hj; exact absurd rfl h2
            | _ + 7, _, _ => trivial
        · have h0 : A'.eval (.tmp 12) = .pointer (some ⟨N + 1, 0, none⟩) := (haway 12 (by kernel_rfl)).trans rfl
          exact wp_of_run (run_load_state _ _ _ _ _ _ _ 12 (N + 1) _ h0 ((cellB hlow L1).trans d1)) ⟨_, rfl, rfl, .plain mQ_below (Below.refl _ _) (by decide)⟩
        · have h0 : A'.eval (.tmp 6) = .string part := (haway 6 (by kernel_rfl)).trans rfl
          exact wp_of_run (run_move _ _ _ _ _ _ _ 6 _ h0) ⟨_, rfl, rfl, .plain mQ_below (Below.refl _ _) (by decide)⟩
        · have h0 : A'.eval (.tmp 8) = .int .i64 day := (haway 8 (by kernel_rfl)).trans rfl
          exact wp_of_run (run_move _ _ _ _ _ _ _ 8 _ h0) ⟨_, rfl, rfl, .plain mQ_below (Below.refl _ _) (by decide)⟩
        · have qa : A'.eval (.tmp 120) = .agg #[.slice co cn cc] := sees 120 19 (by kernel_rfl) rfl
          have qc : A'.eval (.tmp 126) = .agg #[.slice so sn sc] := sees 126 25 (by kernel_rfl) rfl
          have qd : A'.eval (.tmp 127) = .string part := sees 127 26 (by kernel_rfl) rfl
          have qe : A'.eval (.tmp 128) = .int .i64 day := sees 128 27 (by kernel_rfl) rfl
          obtain ⟨ao, cap, q5, q6⟩ := hT.of 6 (some 28) 24 rfl (fun j h => by cases h; exact hei) _ (hsee 125 24 (by kernel_rfl) rfl).1 (hwn.same (by kernel_rfl))
          refine wp_of_callN _ _ _ _ _ _ _ 14 _ [.tmp 120, .tmp 125, .tmp 126, .tmp 127, .tmp 128] [_, _, _, _, _] (by simp only [List.map_cons, List.map_nil]; rw [qa, q5, qc, qd, qe]) (by kernel_rfl) ?_
          refine (HP4.out HF.out ao cap w (below_step (below_step HW2.out HB10.out) hlow) q6).mono ?_
          rintro e' w' ⟨rfl, hb'⟩
          exact ⟨_, rfl, _, rfl, rfl, .plain mQ_below hb' (by decide)⟩
        · have h0 : A'.eval (.tmp 21) = .bool (y2) := (haway 21 (by kernel_rfl)).trans rfl
          exact wp_of_run (run_move _ _ _ _ _ _ _ 21 _ h0) ⟨_, rfl, rfl, .plain mQ_below (Below.refl _ _) (by decide)⟩
        · have qa : A'.eval (.tmp 129) = .bool (y2) := sees 129 28 (by kernel_rfl) rfl
          have qb : A'.eval (.tmp 130) = .bool (y2) := sees 130 29 (by kernel_rfl) rfl
          exact wp_of_run (run_same _ _ _ _ _ _ _ 129 130 _ _ qa qb) ⟨_, rfl, congrArg Value.bool (by simp), .plain mQ_below (Below.refl _ _) (by decide)⟩
        · have qa : A'.eval (.tmp 119) = .bool true := sees 119 18 (by kernel_rfl) rfl
          have ha := (hsee 119 18 (by kernel_rfl) rfl).1
          have hb := (hsee 131 30 (by kernel_rfl) rfl).2 (fun g b hg => by cases (show some (18, true) = some (g, b) from hg); rw [ha, qa])
          exact wp_of_run (run_and _ _ _ _ _ _ _ 119 131 true qa) ⟨_, rfl, hb, .plain mQ_below (Below.refl _ _) (by decide)⟩
        · have h0 : A'.eval (.tmp 132) = .bool true := sees 132 31 (by kernel_rfl) rfl
          exact wp_of_run (run_assign _ _ _ _ _ _ _ 132 _ h0) ⟨_, rfl, rfl, .plain mQ_below (Below.refl _ _) (by decide)⟩
      intro e w11 hT hall
      obtain ⟨z0, h0⟩ := hall 0 (by decide)
      obtain ⟨z1, h1⟩ := hall 1 (by decide)
      obtain ⟨z2, h2⟩ := hall 2 (by decide)
      obtain ⟨z3, h3⟩ := hall 3 (by decide)
      obtain ⟨z4, h4⟩ := hall 4 (by decide)
      obtain ⟨z5, h5⟩ := hall 5 (by decide)
      obtain ⟨z6, h6⟩ := hall 6 (by decide)
      obtain ⟨z7, h7⟩ := hall 7 (by decide)
      obtain ⟨z8, h8⟩ := hall 8 (by decide)
      obtain ⟨z9, h9⟩ := hall 9 (by decide)
      obtain ⟨z10, h10⟩ := hall 10 (by decide)
      obtain ⟨z11, h11⟩ := hall 11 (by decide)
      obtain ⟨z12, h12⟩ := hall 12 (by decide)
      obtain ⟨z13, h13⟩ := hall 13 (by decide)
      obtain ⟨z14, h14⟩ := hall 14 (by decide)
      obtain ⟨z15, h15⟩ := hall 15 (by decide)
      obtain ⟨z16, h16⟩ := hall 16 (by decide)
      obtain ⟨z17, h17⟩ := hall 17 (by decide)
      obtain ⟨z18, h18⟩ := hall 18 (by decide)
      obtain ⟨z19, h19⟩ := hall 19 (by decide)
      obtain ⟨z20, h20⟩ := hall 20 (by decide)
      obtain ⟨z21, h21⟩ := hall 21 (by decide)
      obtain ⟨z22, h22⟩ := hall 22 (by decide)
      obtain ⟨z23, h23⟩ := hall 23 (by decide)
      obtain ⟨z24, h24⟩ := hall 24 (by decide)
      obtain ⟨z25, h25⟩ := hall 25 (by decide)
      obtain ⟨z26, h26⟩ := hall 26 (by decide)
      obtain ⟨z27, h27⟩ := hall 27 (by decide)
      obtain ⟨z28, h28⟩ := hall 28 (by decide)
      obtain ⟨z29, h29⟩ := hall 29 (by decide)
      obtain ⟨z30, h30⟩ := hall 30 (by decide)
      obtain ⟨z31, h31⟩ := hall 31 (by decide)
      obtain ⟨z32, h32⟩ := hall 32 (by decide)
      obtain rfl := hT.pure 32 _ h32 (fun g b h => by cases h)
      have HB11 := Lib.hid (show Below w10.heap.size w10 w11 from hT.base 0 none rfl (fun _ h => by cases h))
      simp only [List.length_cons, List.length_nil, Nat.reduceAdd, fillTo, h0, h1, h2, h3, h4, h5, h6, h7, h8, h9, h10, h11, h12, h13, h14, h15, h16, h17, h18, h19, h20, h21, h22, h23, h24, h25, h26, h27, h28, h29, h30, h31, h32, dstOf]
      clear hT hall h0 h1 h2 h3 h4 h5 h6 h7 h8 h9 h10 h11 h12 h13 h14 h15 h16 h17 h18 h19 h20 h21 h22 h23 h24 h25 h26 h27 h28 h29 h30 h31 h32 d0 d1 L0 L1
      go_simp
      go_wp2_with fail
      go_ret
      exact ⟨rfl, below_step HW2.out (below_step HB10.out HB11.out)⟩


  | false =>
    have HX : Hid ((false || x2) = x2) := Lib.hid (by simp)
    rw [HX.out] at HE3 HE4
    go_wp2_with fail
    refine (HE2.out w3 (below_step HW2.out HB3.out)).mono ?_
    rintro e w4 ⟨rfl, hb4⟩
    have HB4 := Lib.hid (below_step HB3.out hb4)
    clear hb4
    have d0 := (cellB HB4.out HL0.out).trans HD0.out
    have d1 := (cellB HB4.out HL1.out).trans HD1.out
    go_wp2_with fail
    refine (HP1.out HF.out w4 (below_step HW2.out HB4.out)).mono ?_
    rintro e w5 ⟨rfl, hb5⟩
    have HB5 := Lib.hid (below_step HB4.out hb5)
    clear hb5 d0 d1
    cases y1 with
    | true =>
      have HY : Hid ((true || y2) = true) := Lib.hid rfl
      rw [HY.out] at HP3 HP4
      go_wp2_with (at_builtin; (first | refine wpList_of_step (by rfl) (step_copy_list (by rfl) _ _ rfl Try.underlying29 hi2 hz0 hz1 hz2 rfl (by decide) stCon lenCon w5.heap.size rfl (Whole.new _ _ _) w2.heap.size HB5.out.size l l.length rfl (by unfold maxLen; omega) (by omega) lo lc rfl (HLs2.out.below stCon (below_alloc HB5.out _)) ?_) | refine step_copy_list (by rfl) _ _ rfl Try.underlying29 hi2 hz0 hz1 hz2 rfl (by decide) stCon lenCon w5.heap.size rfl (Whole.new _ _ _) w2.heap.size HB5.out.size l l.length rfl (by unfold maxLen; omega) (by omega) lo lc rfl (HLs2.out.below stCon (below_alloc HB5.out _)) ?_); intro v7 w7 css7 r71 r72 r73; have HB7 := Lib.hid (below_step (below_alloc HB5.out _) r73); have HR71 := Lib.hid r71; have HR72 := Lib.hid r72; clear r71 r72 r73; refine Hid.out ?_)
      refine Lib.hid ?_
      go_wp2_with (at_builtin; (first | refine wpList_of_step (by rfl) (step_more_list (by rfl) _ _ rfl Try.underlying29 hi2 hz0 hz1 hz2 rfl (by decide) plainCon lenCon w2.heap.size HB7.out.size l m l.length m.length rfl v7 css7 rfl HR71.out HR72.out (by unfold maxLen; omega) (by omega) mo mc rfl (HMs2.out.below stCon HB7.out) (by rw [List.length_append]) ?_) | refine step_more_list (by rfl) _ _ rfl Try.underlying29 hi2 hz0 hz1 hz2 rfl (by decide) plainCon lenCon w2.heap.size HB7.out.size l m l.length m.length rfl v7 css7 rfl HR71.out HR72.out (by unfold maxLen; omega) (by omega) mo mc rfl (HMs2.out.below stCon HB7.out) (by rw [List.length_append]) ?_); intro ro8 rc8 w8 r81 r82; have HB8 := Lib.hid (HB7.out.trans r82); have HR8 := Lib.hid r81; clear r81 r82)
      refine (HE3.out ro8 rc8 w8 HR8.out).mono ?_
      rintro e w9 ⟨rfl, hb9⟩
      have HB9 := Lib.hid (below_step HB8.out hb9)
      clear hb9 HB8 HR8 HR71 HR72 HB7
      go_wp2_with (at_builtin; (first | refine wpList_of_step (by rfl) (step_copy_list (by rfl) _ _ rfl Try.underlying29 hi2 hz0 hz1 hz2 rfl (by decide) stCon lenCon w9.heap.size rfl (Whole.new _ _ _) w2.heap.size HB9.out.size m m.length rfl (by unfold maxLen; omega) (by omega) mo mc rfl (HMs2.out.below stCon (below_alloc HB9.out _)) ?_) | refine step_copy_list (by rfl) _ _ rfl Try.underlying29 hi2 hz0 hz1 hz2 rfl (by decide) stCon lenCon w9.heap.size rfl (Whole.new _ _ _) w2.heap.size HB9.out.size m m.length rfl (by unfold maxLen; omega) (by omega) mo mc rfl (HMs2.out.below stCon (below_alloc HB9.out _)) ?_); intro v7 w7 css7 r71 r72 r73; have HB7 := Lib.hid (below_step (below_alloc HB9.out _) r73); have HR71 := Lib.hid r71; have HR72 := Lib.hid r72; clear r71 r72 r73; refine Hid.out ?_)
      refine Lib.hid ?_
      go_wp2_with (at_builtin; (first | refine wpList_of_step (by rfl) (step_more_list (by rfl) _ _ rfl Try.underlying29 hi2 hz0 hz1 hz2 rfl (by decide) plainCon lenCon w2.heap.size HB7.out.size m l m.length l.length rfl v7 css7 rfl HR71.out HR72.out (by unfold maxLen; omega) (by omega) lo lc rfl (HLs2.out.below stCon HB7.out) (by rw [List.length_append]) ?_) | refine step_more_list (by rfl) _ _ rfl Try.underlying29 hi2 hz0 hz1 hz2 rfl (by decide) plainCon lenCon w2.heap.size HB7.out.size m l m.length l.length rfl v7 css7 rfl HR71.out HR72.out (by unfold maxLen; omega) (by omega) lo lc rfl (HLs2.out.below stCon HB7.out) (by rw [List.length_append]) ?_); intro ro8 rc8 w8 r81 r82; have HB8 := Lib.hid (HB7.out.trans r82); have HR8 := Lib.hid r81; clear r81 r82)
      refine (HE4.out ro8 rc8 w8 HR8.out).mono ?_
      rintro e w10 ⟨rfl, hb10⟩
      have HB10 := Lib.hid (below_step HB8.out hb10)
      clear hb10 HB8 HR8 HR71 HR72 HB7
      go_wp2_with fail
      have d0 := (cellB HB10.out HL0.out).trans HD0.out
      have d1 := (cellB HB10.out HL1.out).trans HD1.out
      have L0 := lt_of_cell d0
      have L1 := lt_of_cell d1
      apply wp_region_guard 133 mL (mQ w10 subs more) (mX (.slice co cn cc) (.slice so sn sc) (.slice bo subs.length bc) (.slice eo more.length ec) part day (true)) (by kernel_rfl) (by kernel_rfl) rfl
      · intro j t hj
        match j, hj with
        | 0, _ => exact (Below.refl _ _).drew
        | 1, hj | 2, hj | 3, hj | 4, hj | 5, hj | 6, hj => simp [mL] at hj
        | _ + 7, hj => simp [mL] at hj
      · intro i o ho' e w A' hT hei hwn hsee haway
        have hlow : Below w10.heap.size w10 w := hT.base 0 none rfl (fun _ h => by cases h)
        have sees := sees_same hwn hsee
        have hi : i < 33 := by have := (List.getElem?_eq_some_iff.1 ho').1; simpa using this
        have hi : i = 0 ∨ i = 1 ∨ i = 2 ∨ i = 3 ∨ i = 4 ∨ i = 5 ∨ i = 6 ∨ i = 7 ∨ i = 8 ∨ i = 9 ∨ i = 10 ∨ i = 11 ∨ i = 12 ∨ i = 13 ∨ i = 14 ∨ i = 15 ∨ i = 16 ∨ i = 17 ∨ i = 18 ∨ i = 19 ∨ i = 20 ∨ i = 21 ∨ i = 22 ∨ i = 23 ∨ i = 24 ∨ i = 25 ∨ i = 26 ∨ i = 27 ∨ i = 28 ∨ i = 29 ∨ i = 30 ∨ i = 31 ∨ i = 32 := by omega
        rcases hi with rfl | rfl | rfl | rfl | rfl | rfl | rfl | rfl | rfl | rfl | rfl | rfl | rfl | rfl | rfl | rfl | rfl | rfl | rfl | rfl | rfl | rfl | rfl | rfl | rfl | rfl | rfl | rfl | rfl | rfl | rfl | rfl | rfl
        all_goals
          simp only [List.getElem?_cons_succ, List.getElem?_cons_zero, Option.some.injEq] at ho'
          subst ho'
        · have h0 : A'.eval (.tmp 19) = .bool true := (haway 19 (by kernel_rfl)).trans rfl
          exact wp_of_run (run_move _ _ _ _ _ _ _ 19 _ h0) ⟨_, rfl, rfl, .plain mQ_below (Below.refl _ _) (by decide)⟩
        · have h0 : A'.eval (.tmp 101) = .bool true := sees 101 0 (by kernel_rfl) rfl
          exact wp_of_run (run_move _ _ _ _ _ _ _ 101 _ h0) ⟨_, rfl, rfl, .plain mQ_below (Below.refl _ _) (by decide)⟩
        · have h0 : A'.eval (.tmp 22) = .bool true := (haway 22 (by kernel_rfl)).trans rfl
          exact wp_of_run (run_move _ _ _ _ _ _ _ 22 _ h0) ⟨_, rfl, rfl, .plain mQ_below (Below.refl _ _) (by decide)⟩
        · have qa : A'.eval (.tmp 102) = .bool true := sees 102 1 (by kernel_rfl) rfl
          have ha := (hsee 102 1 (by kernel_rfl) rfl).1
          have hb := (hsee 103 2 (by kernel_rfl) rfl).2 (fun g b hg => by cases (show some (1, true) = some (g, b) from hg); rw [ha, qa])
          exact wp_of_run (run_and _ _ _ _ _ _ _ 102 103 true qa) ⟨_, rfl, hb, .plain mQ_below (Below.refl _ _) (by decide)⟩
        · have h0 : A'.eval (.tmp 104) = .bool true := sees 104 3 (by kernel_rfl) rfl
          exact wp_of_run (run_move _ _ _ _ _ _ _ 104 _ h0) ⟨_, rfl, rfl, .plain mQ_below (Below.refl _ _) (by decide)⟩
        · have h0 : A'.eval (.tmp 9) = .pointer (some ⟨N, 0, none⟩) := (haway 9 (by kernel_rfl)).trans rfl
          exact wp_of_run (run_load_cat _ _ _ _ _ _ _ 9 (N) _ h0 ((cellB hlow L0).trans d0)) ⟨_, rfl, rfl, .plain mQ_below (Below.refl _ _) (by decide)⟩
        · refine wp_of_run (run_none_subs _ _ _ _ _ _ _) ⟨_, rfl, trivial, .below mQ_below ((Below.refl _ _).alloc (Nat.le_refl _) _) ?_⟩
          intro j t hj
          match j, hj with
          | 1, _ => exact ⟨_, rfl, hlow.size, Whole.new _ _ _⟩
          | 0, hj | 2, hj | 3, hj | 4, hj | 5, hj | 6, hj => simp [mL] at hj
          | _ + 7, hj => simp [mL] at hj
        · have h0 : A'.eval (.tmp 1) = .slice bo subs.length bc := (haway 1 (by kernel_rfl)).trans rfl
          exact wp_of_run (run_move _ _ _ _ _ _ _ 1 _ h0) ⟨_, rfl, rfl, .plain mQ_below (Below.refl _ _) (by decide)⟩
        · obtain ⟨g, q1, q2, q3⟩ := hT.of 1 (some 8) 6 rfl (fun j h => by cases h; exact hei) _ (hsee 107 6 (by kernel_rfl) rfl).1 (hwn.same (by kernel_rfl))
          have q4 : A'.eval (.tmp 108) = .slice bo subs.length bc := sees 108 7 (by kernel_rfl) rfl
          obtain ⟨v, w', css, hr, r1, r2, r3⟩ := run_copy_list 25 Try.underlying25 hi1 hy0 hy1 hy2 rfl (by decide) stSub lenSub g q3 w10.heap.size q2 subs subs.length rfl (by unfold maxLen; omega) (by omega) bo bc (HBs2.out.below stSub (below_step HB10.out hlow))
          refine wp_of_run (run_append_two _ _ _ _ _ _ _ w' 107 108 _ _ _ _ q1 q4 hr) ⟨_, rfl, trivial, .below mQ_below r3 ?_⟩
          intro j t hj
          match j, hj with
          | 2, _ => exact ⟨css, r1, r2⟩
          | 0, hj | 1, hj | 3, hj | 4, hj | 5, hj | 6, hj => simp [mL] at hj
          | _ + 7, hj => simp [mL] at hj
        · have h0 : A'.eval (.tmp 2) = .slice eo more.length ec := (haway 2 (by kernel_rfl)).trans rfl
          exact wp_of_run (run_move _ _ _ _ _ _ _ 2 _ h0) ⟨_, rfl, rfl, .plain mQ_below (Below.refl _ _) (by decide)⟩
        · obtain ⟨css, q1, q2⟩ := hT.of 2 (some 10) 8 rfl (fun j h => by cases h; exact hei) _ (hsee 109 8 (by kernel_rfl) rfl).1 (hwn.same (by kernel_rfl))
          have q4 : A'.eval (.tmp 110) = .slice eo more.length ec := sees 110 9 (by kernel_rfl) rfl
          obtain ⟨v, w', dss, hr, r1, r2, r3⟩ := run_more_list 25 Try.underlying25 hi1 hy0 hy1 hy2 rfl (by decide) plainSub lenSub w10.heap.size hlow.size subs more subs.length more.length rfl _ css q1 q2 (by unfold maxLen; omega) (by omega) eo ec (HEs2.out.below stSub (below_step HB10.out hlow))
          refine wp_of_run (run_append_two _ _ _ _ _ _ _ w' 109 110 _ _ _ _ rfl q4 hr) ⟨_, rfl, trivial, ?_, ?_⟩
          · obtain ⟨ro, rc, rfl⟩ := owns_shapeM r1
            intro j t hj
            match j, hj with
            | 3, _ => exact ⟨ro, rc, rfl, r2.row r1 (by rw [List.length_append])⟩
            | 0, hj | 1, hj | 2, hj | 4, hj | 5, hj | 6, hj => simp [mL] at hj
            | _ + 7, hj => simp [mL] at hj
          · intro j p hj h1 h2 h3 h4 h5 u hu
            match j, hj, hu with
            | 0, _, hu => exact Below.trans hu r3
            | 1, hj, _ => cases hj; exact absurd (h4 8 rfl) (by rw [(hsee 109 8 (by kernel_rfl) rfl).1]; simp)
            | 2, hj, _ => cases hj; exact absurd rfl h1
            | 3, hj, _ => cases hj; exact absurd rfl h2
            | 4, hj, _ => cases hj; exact absurd hei (hT.set [18, 17, 16, 14, 10] 20 (h5 20 rfl) (by kernel_rfl) 10 rfl)
            | 5, hj, _ => cases hj; exact absurd hei (hT.set [18, 17, 16, 14, 10] 22 (h5 22 rfl) (by kernel_rfl) 10 rfl)
            | 6, hj, _ => cases hj; exact absurd hei (hT.set [18, 17, 16, 14, 10] 24 (h5 24 rfl) (by kernel_rfl) 10 rfl)
            | _ + 7, _, _ => trivial
        · have h0 : A'.eval (.tmp 12) = .pointer (some ⟨N + 1, 0, none⟩) := (haway 12 (by kernel_rfl)).trans rfl
          exact wp_of_run (run_load_state _ _ _ _ _ _ _ 12 (N + 1) _ h0 ((cellB hlow L1).trans d1)) ⟨_, rfl, rfl, .plain mQ_below (Below.refl _ _) (by decide)⟩
        · have h0 : A'.eval (.tmp 6) = .string part := (haway 6 (by kernel_rfl)).trans rfl
          exact wp_of_run (run_move _ _ _ _ _ _ _ 6 _ h0) ⟨_, rfl, rfl, .plain mQ_below (Below.refl _ _) (by decide)⟩
        · have h0 : A'.eval (.tmp 8) = .int .i64 day := (haway 8 (by kernel_rfl)).trans rfl
          exact wp_of_run (run_move _ _ _ _ _ _ _ 8 _ h0) ⟨_, rfl, rfl, .plain mQ_below (Below.refl _ _) (by decide)⟩
        · have qa : A'.eval (.tmp 106) = .agg #[.slice co cn cc] := sees 106 5 (by kernel_rfl) rfl
          have qc : A'.eval (.tmp 112) = .agg #[.slice so sn sc] := sees 112 11 (by kernel_rfl) rfl
          have qd : A'.eval (.tmp 113) = .string part := sees 113 12 (by kernel_rfl) rfl
          have qe : A'.eval (.tmp 114) = .int .i64 day := sees 114 13 (by kernel_rfl) rfl
          obtain ⟨ao, cap, q5, q6⟩ := hT.of 3 (some 14) 10 rfl (fun j h => by cases h; exact hei) _ (hsee 111 10 (by kernel_rfl) rfl).1 (hwn.same (by kernel_rfl))
          refine wp_of_callN _ _ _ _ _ _ _ 14 _ [.tmp 106, .tmp 111, .tmp 112, .tmp 113, .tmp 114] [_, _, _, _, _] (by simp only [List.map_cons, List.map_nil]; rw [qa, q5, qc, qd, qe]) (by kernel_rfl) ?_
          refine (HP3.out HF.out ao cap w (below_step (below_step HW2.out HB10.out) hlow) q6).mono ?_
          rintro e' w' ⟨rfl, hb'⟩
          exact ⟨_, rfl, _, rfl, rfl, .plain mQ_below hb' (by decide)⟩
        · have h0 : A'.eval (.tmp 21) = .bool (true) := (haway 21 (by kernel_rfl)).trans rfl
          exact wp_of_run (run_move _ _ _ _ _ _ _ 21 _ h0) ⟨_, rfl, rfl, .plain mQ_below (Below.refl _ _) (by decide)⟩
        · have qa : A'.eval (.tmp 115) = .bool (true) := sees 115 14 (by kernel_rfl) rfl
          have qb : A'.eval (.tmp 116) = .bool (true) := sees 116 15 (by kernel_rfl) rfl
          exact wp_of_run (run_same _ _ _ _ _ _ _ 115 116 _ _ qa qb) ⟨_, rfl, congrArg Value.bool (by simp), .plain mQ_below (Below.refl _ _) (by decide)⟩
        · have qa : A'.eval (.tmp 105) = .bool true := sees 105 4 (by kernel_rfl) rfl
          have ha := (hsee 105 4 (by kernel_rfl) rfl).1
          have hb := (hsee 117 16 (by kernel_rfl) rfl).2 (fun g b hg => by cases (show some (4, true) = some (g, b) from hg); rw [ha, qa])
          exact wp_of_run (run_and _ _ _ _ _ _ _ 105 117 true qa) ⟨_, rfl, hb, .plain mQ_below (Below.refl _ _) (by decide)⟩
        · have h0 : A'.eval (.tmp 118) = .bool true := sees 118 17 (by kernel_rfl) rfl
          exact wp_of_run (run_move _ _ _ _ _ _ _ 118 _ h0) ⟨_, rfl, rfl, .plain mQ_below (Below.refl _ _) (by decide)⟩
        · have h0 : A'.eval (.tmp 9) = .pointer (some ⟨N, 0, none⟩) := (haway 9 (by kernel_rfl)).trans rfl
          exact wp_of_run (run_load_cat _ _ _ _ _ _ _ 9 (N) _ h0 ((cellB hlow L0).trans d0)) ⟨_, rfl, rfl, .plain mQ_below (Below.refl _ _) (by decide)⟩
        · refine wp_of_run (run_none_subs _ _ _ _ _ _ _) ⟨_, rfl, trivial, .below mQ_below ((Below.refl _ _).alloc (Nat.le_refl _) _) ?_⟩
          intro j t hj
          match j, hj with
          | 4, _ => exact ⟨_, rfl, hlow.size, Whole.new _ _ _⟩
          | 0, hj | 1, hj | 2, hj | 3, hj | 5, hj | 6, hj => simp [mL] at hj
          | _ + 7, hj => simp [mL] at hj
        · have h0 : A'.eval (.tmp 2) = .slice eo more.length ec := (haway 2 (by kernel_rfl)).trans rfl
          exact wp_of_run (run_move _ _ _ _ _ _ _ 2 _ h0) ⟨_, rfl, rfl, .plain mQ_below (Below.refl _ _) (by decide)⟩
        · obtain ⟨g, q1, q2, q3⟩ := hT.of 4 (some 22) 20 rfl (fun j h => by cases h; exact hei) _ (hsee 121 20 (by kernel_rfl) rfl).1 (hwn.same (by kernel_rfl))
          have q4 : A'.eval (.tmp 122) = .slice eo more.length ec := sees 122 21 (by kernel_rfl) rfl
          obtain ⟨v, w', css, hr, r1, r2, r3⟩ := run_copy_list 25 Try.underlying25 hi1 hy0 hy1 hy2 rfl (by decide) stSub lenSub g q3 w10.heap.size q2 more more.length rfl (by unfold maxLen; omega) (by omega) eo ec (HEs2.out.below stSub (below_step HB10.out hlow))
          refine wp_of_run (run_append_two _ _ _ _ _ _ _ w' 121 122 _ _ _ _ q1 q4 hr) ⟨_, rfl, trivial, .below mQ_below r3 ?_⟩
          intro j t hj
          match j, hj with
          | 5, _ => exact ⟨css, r1, r2⟩
          | 0, hj | 1, hj | 2, hj | 3, hj | 4, hj | 6, hj => simp [mL] at hj
          | _ + 7, hj => simp [mL] at hj
        · have h0 : A'.eval (.tmp 1) = .slice bo subs.length bc := (haway 1 (by kernel_rfl)).trans rfl
          exact wp_of_run (run_move _ _ _ _ _ _ _ 1 _ h0) ⟨_, rfl, rfl, .plain mQ_below (Below.refl _ _) (by decide)⟩
        · obtain ⟨css, q1, q2⟩ := hT.of 5 (some 24) 22 rfl (fun j h => by cases h; exact hei) _ (hsee 123 22 (by kernel_rfl) rfl).1 (hwn.same (by kernel_rfl))
          have q4 : A'.eval (.tmp 124) = .slice bo subs.length bc := sees 124 23 (by kernel_rfl) rfl
          obtain ⟨v, w', dss, hr, r1, r2, r3⟩ := run_more_list 25 Try.underlying25 hi1 hy0 hy1 hy2 rfl (by decide) plainSub lenSub w10.heap.size hlow.size more subs more.length subs.length rfl _ css q1 q2 (by unfold maxLen; omega) (by omega) bo bc (HBs2.out.below stSub (below_step HB10.out hlow))
          refine wp_of_run (run_append_two _ _ _ _ _ _ _ w' 123 124 _ _ _ _ rfl q4 hr) ⟨_, rfl, trivial, ?_, ?_⟩
          · obtain ⟨ro, rc, rfl⟩ := owns_shapeM r1
            intro j t hj
            match j, hj with
            | 6, _ => exact ⟨ro, rc, rfl, r2.row r1 (by rw [List.length_append])⟩
            | 0, hj | 1, hj | 2, hj | 3, hj | 4, hj | 5, hj => simp [mL] at hj
            | _ + 7, hj => simp [mL] at hj
          · intro j p hj h1 h2 h3 h4 h5 u hu
            match j, hj, hu with
            | 0, _, hu => exact Below.trans hu r3
            | 1, hj, _ => cases hj; exact absurd (h4 8 rfl) (hT.set [17, 16, 14, 10, 8] 18 (by rw [hwn 18 true rfl]; simp) (by kernel_rfl) 8 rfl)
            | 2, hj, _ => cases hj; exact absurd (h4 10 rfl) (hT.set [17, 16, 14, 10] 18 (by rw [hwn 18 true rfl]; simp) (by kernel_rfl) 10 rfl)
            | 3, hj, _ => cases hj; exact absurd (h4 14 rfl) (hT.set [17, 16, 14] 18 (by rw [hwn 18 true rfl]; simp) (by kernel_rfl) 14 rfl)
            | 4, hj, _ => cases hj; exact absurd (h4 22 rfl) (by rw [(hsee 123 22 (by kernel_rfl) rfl).1]; simp)
            | 5, hj, _ => cases hj; exact absurd rfl h1
            | 6, hj, _ => cases hj; exact absurd rfl h2
            | _ + 7, _, _ => trivial
        · have h0 : A'.eval (.tmp 12) = .pointer (some ⟨N + 1, 0, none⟩) := (haway 12 (by kernel_rfl)).trans rfl
          exact wp_of_run (run_load_state _ _ _ _ _ _ _ 12 (N + 1) _ h0 ((cellB hlow L1).trans d1)) ⟨_, rfl, rfl, .plain mQ_below (Below.refl _ _) (by decide)⟩
        · have h0 : A'.eval (.tmp 6) = .string part := (haway 6 (by kernel_rfl)).trans rfl
          exact wp_of_run (run_move _ _ _ _ _ _ _ 6 _ h0) ⟨_, rfl, rfl, .plain mQ_below (Below.refl _ _) (by decide)⟩
        · have h0 : A'.eval (.tmp 8) = .int .i64 day := (haway 8 (by kernel_rfl)).trans rfl
          exact wp_of_run (run_move _ _ _ _ _ _ _ 8 _ h0) ⟨_, rfl, rfl, .plain mQ_below (Below.refl _ _) (by decide)⟩
        · have qa : A'.eval (.tmp 120) = .agg #[.slice co cn cc] := sees 120 19 (by kernel_rfl) rfl
          have qc : A'.eval (.tmp 126) = .agg #[.slice so sn sc] := sees 126 25 (by kernel_rfl) rfl
          have qd : A'.eval (.tmp 127) = .string part := sees 127 26 (by kernel_rfl) rfl
          have qe : A'.eval (.tmp 128) = .int .i64 day := sees 128 27 (by kernel_rfl) rfl
          obtain ⟨ao, cap, q5, q6⟩ := hT.of 6 (some 28) 24 rfl (fun j h => by cases h; exact hei) _ (hsee 125 24 (by kernel_rfl) rfl).1 (hwn.same (by kernel_rfl))
          refine wp_of_callN _ _ _ _ _ _ _ 14 _ [.tmp 120, .tmp 125, .tmp 126, .tmp 127, .tmp 128] [_, _, _, _, _] (by simp only [List.map_cons, List.map_nil]; rw [qa, q5, qc, qd, qe]) (by kernel_rfl) ?_
          refine (HP4.out HF.out ao cap w (below_step (below_step HW2.out HB10.out) hlow) q6).mono ?_
          rintro e' w' ⟨rfl, hb'⟩
          exact ⟨_, rfl, _, rfl, rfl, .plain mQ_below hb' (by decide)⟩
        · have h0 : A'.eval (.tmp 21) = .bool (true) := (haway 21 (by kernel_rfl)).trans rfl
          exact wp_of_run (run_move _ _ _ _ _ _ _ 21 _ h0) ⟨_, rfl, rfl, .plain mQ_below (Below.refl _ _) (by decide)⟩
        · have qa : A'.eval (.tmp 129) = .bool (true) := sees 129 28 (by kernel_rfl) rfl
          have qb : A'.eval (.tmp 130) = .bool (true) := sees 130 29 (by kernel_rfl) rfl
          exact wp_of_run (run_same _ _ _ _ _ _ _ 129 130 _ _ qa qb) ⟨_, rfl, congrArg Value.bool (by simp), .plain mQ_below (Below.refl _ _) (by decide)⟩
        · have qa : A'.eval (.tmp 119) = .bool true := sees 119 18 (by kernel_rfl) rfl
          have ha := (hsee 119 18 (by kernel_rfl) rfl).1
          have hb := (hsee 131 30 (by kernel_rfl) rfl).2 (fun g b hg => by cases (show some (18, true) = some (g, b) from hg); rw [ha, qa])
          exact wp_of_run (run_and _ _ _ _ _ _ _ 119 131 true qa) ⟨_, rfl, hb, .plain mQ_below (Below.refl _ _) (by decide)⟩
        · have h0 : A'.eval (.tmp 132) = .bool true := sees 132 31 (by kernel_rfl) rfl
          exact wp_of_run (run_assign _ _ _ _ _ _ _ 132 _ h0) ⟨_, rfl, rfl, .plain mQ_below (Below.refl _ _) (by decide)⟩
      intro e w11 hT hall
      obtain ⟨z0, h0⟩ := hall 0 (by decide)
      obtain ⟨z1, h1⟩ := hall 1 (by decide)
      obtain ⟨z2, h2⟩ := hall 2 (by decide)
      obtain ⟨z3, h3⟩ := hall 3 (by decide)
      obtain ⟨z4, h4⟩ := hall 4 (by decide)
      obtain ⟨z5, h5⟩ := hall 5 (by decide)
      obtain ⟨z6, h6⟩ := hall 6 (by decide)
      obtain ⟨z7, h7⟩ := hall 7 (by decide)
      obtain ⟨z8, h8⟩ := hall 8 (by decide)
      obtain ⟨z9, h9⟩ := hall 9 (by decide)
      obtain ⟨z10, h10⟩ := hall 10 (by decide)
      obtain ⟨z11, h11⟩ := hall 11 (by decide)
      obtain ⟨z12, h12⟩ := hall 12 (by decide)
      obtain ⟨z13, h13⟩ := hall 13 (by decide)
      obtain ⟨z14, h14⟩ := hall 14 (by decide)
      obtain ⟨z15, h15⟩ := hall 15 (by decide)
      obtain ⟨z16, h16⟩ := hall 16 (by decide)
      obtain ⟨z17, h17⟩ := hall 17 (by decide)
      obtain ⟨z18, h18⟩ := hall 18 (by decide)
      obtain ⟨z19, h19⟩ := hall 19 (by decide)
      obtain ⟨z20, h20⟩ := hall 20 (by decide)
      obtain ⟨z21, h21⟩ := hall 21 (by decide)
      obtain ⟨z22, h22⟩ := hall 22 (by decide)
      obtain ⟨z23, h23⟩ := hall 23 (by decide)
      obtain ⟨z24, h24⟩ := hall 24 (by decide)
      obtain ⟨z25, h25⟩ := hall 25 (by decide)
      obtain ⟨z26, h26⟩ := hall 26 (by decide)
      obtain ⟨z27, h27⟩ := hall 27 (by decide)
      obtain ⟨z28, h28⟩ := hall 28 (by decide)
      obtain ⟨z29, h29⟩ := hall 29 (by decide)
      obtain ⟨z30, h30⟩ := hall 30 (by decide)
      obtain ⟨z31, h31⟩ := hall 31 (by decide)
      obtain ⟨z32, h32⟩ := hall 32 (by decide)
      obtain rfl := hT.pure 32 _ h32 (fun g b h => by cases h)
      have HB11 := Lib.hid (show Below w10.heap.size w10 w11 from hT.base 0 none rfl (fun _ h => by cases h))
      simp only [List.length_cons, List.length_nil, Nat.reduceAdd, fillTo, h0, h1, h2, h3, h4, h5, h6, h7, h8, h9, h10, h11, h12, h13, h14, h15, h16, h17, h18, h19, h20, h21, h22, h23, h24, h25, h26, h27, h28, h29, h30, h31, h32, dstOf]
      clear hT hall h0 h1 h2 h3 h4 h5 h6 h7 h8 h9 h10 h11 h12 h13 h14 h15 h16 h17 h18 h19 h20 h21 h22 h23 h24 h25 h26 h27 h28 h29 h30 h31 h32 d0 d1 L0 L1
      go_simp
      go_wp2_with fail
      go_ret
      exact ⟨rfl, below_step HW2.out (below_step HB10.out HB11.out)⟩

    | false =>
      have HY : Hid ((false || y2) = y2) := Lib.hid (by simp)
      rw [HY.out] at HP3 HP4
      have d0 := (cellB HB5.out HL0.out).trans HD0.out
      have d1 := (cellB HB5.out HL1.out).trans HD1.out
      go_wp2_with fail
      refine (HP2.out HF.out w5 (below_step HW2.out HB5.out)).mono ?_
      rintro e w6 ⟨rfl, hb6⟩
      have HB6 := Lib.hid (below_step HB5.out hb6)
      clear hb6 d0 d1
      go_wp2_with (at_builtin; (first | refine wpList_of_step (by rfl) (step_copy_list (by rfl) _ _ rfl Try.underlying29 hi2 hz0 hz1 hz2 rfl (by decide) stCon lenCon w6.heap.size rfl (Whole.new _ _ _) w2.heap.size HB6.out.size l l.length rfl (by unfold maxLen; omega) (by omega) lo lc rfl (HLs2.out.below stCon (below_alloc HB6.out _)) ?_) | refine step_copy_list (by rfl) _ _ rfl Try.underlying29 hi2 hz0 hz1 hz2 rfl (by decide) stCon lenCon w6.heap.size rfl (Whole.new _ _ _) w2.heap.size HB6.out.size l l.length rfl (by unfold maxLen; omega) (by omega) lo lc rfl (HLs2.out.below stCon (below_alloc HB6.out _)) ?_); intro v7 w7 css7 r71 r72 r73; have HB7 := Lib.hid (below_step (below_alloc HB6.out _) r73); have HR71 := Lib.hid r71; have HR72 := Lib.hid r72; clear r71 r72 r73; refine Hid.out ?_)
      refine Lib.hid ?_
      go_wp2_with (at_builtin; (first | refine wpList_of_step (by rfl) (step_more_list (by rfl) _ _ rfl Try.underlying29 hi2 hz0 hz1 hz2 rfl (by decide) plainCon lenCon w2.heap.size HB7.out.size l m l.length m.length rfl v7 css7 rfl HR71.out HR72.out (by unfold maxLen; omega) (by omega) mo mc rfl (HMs2.out.below stCon HB7.out) (by rw [List.length_append]) ?_) | refine step_more_list (by rfl) _ _ rfl Try.underlying29 hi2 hz0 hz1 hz2 rfl (by decide) plainCon lenCon w2.heap.size HB7.out.size l m l.length m.length rfl v7 css7 rfl HR71.out HR72.out (by unfold maxLen; omega) (by omega) mo mc rfl (HMs2.out.below stCon HB7.out) (by rw [List.length_append]) ?_); intro ro8 rc8 w8 r81 r82; have HB8 := Lib.hid (HB7.out.trans r82); have HR8 := Lib.hid r81; clear r81 r82)
      refine (HE3.out ro8 rc8 w8 HR8.out).mono ?_
      rintro e w9 ⟨rfl, hb9⟩
      have HB9 := Lib.hid (below_step HB8.out hb9)
      clear hb9 HB8 HR8 HR71 HR72 HB7
      go_wp2_with (at_builtin; (first | refine wpList_of_step (by rfl) (step_copy_list (by rfl) _ _ rfl Try.underlying29 hi2 hz0 hz1 hz2 rfl (by decide) stCon lenCon w9.heap.size rfl (Whole.new _ _ _) w2.heap.size HB9.out.size m m.length rfl (by unfold maxLen; omega) (by omega) mo mc rfl (HMs2.out.below stCon (below_alloc HB9.out _)) ?_) | refine step_copy_list (by rfl) _ _ rfl Try.underlying29 hi2 hz0 hz1 hz2 rfl (by decide) stCon lenCon w9.heap.size rfl (Whole.new _ _ _) w2.heap.size HB9.out.size m m.length rfl (by unfold maxLen; omega) (by omega) mo mc rfl (HMs2.out.below stCon (below_alloc HB9.out _)) ?_); intro v7 w7 css7 r71 r72 r73; have HB7 := Lib.hid (below_step (below_alloc HB9.out _) r73); have HR71 := Lib.hid r71; have HR72 := Lib.hid r72; clear r71 r72 r73; refine Hid.out ?_)
      refine Lib.hid ?_
      go_wp2_with (at_builtin; (first | refine wpList_of_step (by rfl) (step_more_list (by rfl) _ _ rfl Try.underlying29 hi2 hz0 hz1 hz2 rfl (by decide) plainCon lenCon w2.heap.size HB7.out.size m l m.length l.length rfl v7 css7 rfl HR71.out HR72.out (by unfold maxLen; omega) (by omega) lo lc rfl (HLs2.out.below stCon HB7.out) (by rw [List.length_append]) ?_) | refine step_more_list (by rfl) _ _ rfl Try.underlying29 hi2 hz0 hz1 hz2 rfl (by decide) plainCon lenCon w2.heap.size HB7.out.size m l m.length l.length rfl v7 css7 rfl HR71.out HR72.out (by unfold maxLen; omega) (by omega) lo lc rfl (HLs2.out.below stCon HB7.out) (by rw [List.length_append]) ?_); intro ro8 rc8 w8 r81 r82; have HB8 := Lib.hid (HB7.out.trans r82); have HR8 := Lib.hid r81; clear r81 r82)
      refine (HE4.out ro8 rc8 w8 HR8.out).mono ?_
      rintro e w10 ⟨rfl, hb10⟩
      have HB10 := Lib.hid (below_step HB8.out hb10)
      clear hb10 HB8 HR8 HR71 HR72 HB7
      go_wp2_with fail
      have d0 := (cellB HB10.out HL0.out).trans HD0.out
      have d1 := (cellB HB10.out HL1.out).trans HD1.out
      have L0 := lt_of_cell d0
      have L1 := lt_of_cell d1
      apply wp_region_guard 133 mL (mQ w10 subs more) (mX (.slice co cn cc) (.slice so sn sc) (.slice bo subs.length bc) (.slice eo more.length ec) part day (y2)) (by kernel_rfl) (by kernel_rfl) rfl
      · intro j t hj
        match j, hj with
        | 0, _ => exact (Below.refl _ _).drew
        | 1, hj | 2, hj | 3, hj | 4, hj | 5, hj | 6, hj => simp [mL] at hj
        | _ + 7, hj => simp [mL] at hj
      · intro i o ho' e w A' hT hei hwn hsee haway
        have hlow : Below w10.heap.size w10 w := hT.base 0 none rfl (fun _ h => by cases h)
        have sees := sees_same hwn hsee
        have hi : i < 33 := by have := (List.getElem?_eq_some_iff.1 ho').1; simpa using this
        have hi : i = 0 ∨ i = 1 ∨ i = 2 ∨ i = 3 ∨ i = 4 ∨ i = 5 ∨ i = 6 ∨ i = 7 ∨ i = 8 ∨ i = 9 ∨ i = 10 ∨ i = 11 ∨ i = 12 ∨ i = 13 ∨ i = 14 ∨ i = 15 ∨ i = 16 ∨ i = 17 ∨ i = 18 ∨ i = 19 ∨ i = 20 ∨ i = 21 ∨ i = 22 ∨ i = 23 ∨ i = 24 ∨ i = 25 ∨ i = 26 ∨ i = 27 ∨ i = 28 ∨ i = 29 ∨ i = 30 ∨ i = 31 ∨ i = 32 := by omega
        rcases hi with rfl | rfl | rfl | rfl | rfl | rfl | rfl | rfl | rfl | rfl | rfl | rfl | rfl | rfl | rfl | rfl | rfl | rfl | rfl | rfl | rfl | rfl | rfl | rfl | rfl | rfl | rfl | rfl | rfl | rfl | rfl | rfl | rfl
        all_goals
          simp only [List.getElem?_cons_succ, List.getElem?_cons_zero, Option.some.injEq] at ho'
          subst ho'
        · have h0 : A'.eval (.tmp 19) = .bool true := (haway 19 (by kernel_rfl)).trans rfl
          exact wp_of_run (run_move _ _ _ _ _ _ _ 19 _ h0) ⟨_, rfl, rfl, .plain mQ_below (Below.refl _ _) (by decide)⟩
        · have h0 : A'.eval (.tmp 101) = .bool true := sees 101 0 (by kernel_rfl) rfl
          exact wp_of_run (run_move _ _ _ _ _ _ _ 101 _ h0) ⟨_, rfl, rfl, .plain mQ_below (Below.refl _ _) (by decide)⟩
        · have h0 : A'.eval (.tmp 22) = .bool true := (haway 22 (by kernel_rfl)).trans rfl
          exact wp_of_run (run_move _ _ _ _ _ _ _ 22 _ h0) ⟨_, rfl, rfl, .plain mQ_below (Below.refl _ _) (by decide)⟩
        · have qa : A'.eval (.tmp 102) = .bool true := sees 102 1 (by kernel_rfl) rfl
          have ha := (hsee 102 1 (by kernel_rfl) rfl).1
          have hb := (hsee 103 2 (by kernel_rfl) rfl).2 (fun g b hg => by cases (show some (1, true) = some (g, b) from hg); rw [ha, qa])
          exact wp_of_run (run_and _ _ _ _ _ _ _ 102 103 true qa) ⟨_, rfl, hb, .plain mQ_below (Below.refl _ _) (by decide)⟩
        · have h0 : A'.eval (.tmp 104) = .bool true := sees 104 3 (by kernel_rfl) rfl
          exact wp_of_run (run_move _ _ _ _ _ _ _ 104 _ h0) ⟨_, rfl, rfl, .plain mQ_below (Below.refl _ _) (by decide)⟩
        · have h0 : A'.eval (.tmp 9) = .pointer (some ⟨N, 0, none⟩) := (haway 9 (by kernel_rfl)).trans rfl
          exact wp_of_run (run_load_cat _ _ _ _ _ _ _ 9 (N) _ h0 ((cellB hlow L0).trans d0)) ⟨_, rfl, rfl, .plain mQ_below (Below.refl _ _) (by decide)⟩
        · refine wp_of_run (run_none_subs _ _ _ _ _ _ _) ⟨_, rfl, trivial, .below mQ_below ((Below.refl _ _).alloc (Nat.le_refl _) _) ?_⟩
          intro j t hj
          match j, hj with
          | 1, _ => exact ⟨_, rfl, hlow.size, Whole.new _ _ _⟩
          | 0, hj | 2, hj | 3, hj | 4, hj | 5, hj | 6, hj => simp [mL] at hj
          | _ + 7, hj => simp [mL] at hj
        · have h0 : A'.eval (.tmp 1) = .slice bo subs.length bc := (haway 1 (by kernel_rfl)).trans rfl
          exact wp_of_run (run_move _ _ _ _ _ _ _ 1 _ h0) ⟨_, rfl, rfl, .plain mQ_below (Below.refl _ _) (by decide)⟩
        · obtain ⟨g, q1, q2, q3⟩ := hT.of 1 (some 8) 6 rfl (fun j h => by cases h; exact hei) _ (hsee 107 6 (by kernel_rfl) rfl).1 (hwn.same (by kernel_rfl))
          have q4 : A'.eval (.tmp 108) = .slice bo subs.length bc := sees 108 7 (by kernel_rfl) rfl
          obtain ⟨v, w', css, hr, r1, r2, r3⟩ := run_copy_list 25 Try.underlying25 hi1 hy0 hy1 hy2 rfl (by decide) stSub lenSub g q3 w10.heap.size q2 subs subs.length rfl (by unfold maxLen; omega) (by omega) bo bc (HBs2.out.below stSub (below_step HB10.out hlow))
          refine wp_of_run (run_append_two _ _ _ _ _ _ _ w' 107 108 _ _ _ _ q1 q4 hr) ⟨_, rfl, trivial, .below mQ_below r3 ?_⟩
          intro j t hj
          match j, hj with
          | 2, _ => exact ⟨css, r1, r2⟩
          | 0, hj | 1, hj | 3, hj | 4, hj | 5, hj | 6, hj => simp [mL] at hj
          | _ + 7, hj => simp [mL] at hj
        · have h0 : A'.eval (.tmp 2) = .slice eo more.length ec := (haway 2 (by kernel_rfl)).trans rfl
          exact wp_of_run (run_move _ _ _ _ _ _ _ 2 _ h0) ⟨_, rfl, rfl, .plain mQ_below (Below.refl _ _) (by decide)⟩
        · obtain ⟨css, q1, q2⟩ := hT.of 2 (some 10) 8 rfl (fun j h => by cases h; exact hei) _ (hsee 109 8 (by kernel_rfl) rfl).1 (hwn.same (by kernel_rfl))
          have q4 : A'.eval (.tmp 110) = .slice eo more.length ec := sees 110 9 (by kernel_rfl) rfl
          obtain ⟨v, w', dss, hr, r1, r2, r3⟩ := run_more_list 25 Try.underlying25 hi1 hy0 hy1 hy2 rfl (by decide) plainSub lenSub w10.heap.size hlow.size subs more subs.length more.length rfl _ css q1 q2 (by unfold maxLen; omega) (by omega) eo ec (HEs2.out.below stSub (below_step HB10.out hlow))
          refine wp_of_run (run_append_two _ _ _ _ _ _ _ w' 109 110 _ _ _ _ rfl q4 hr) ⟨_, rfl, trivial, ?_, ?_⟩
          · obtain ⟨ro, rc, rfl⟩ := owns_shapeM r1
            intro j t hj
            match j, hj with
            | 3, _ => exact ⟨ro, rc, rfl, r2.row r1 (by rw [List.length_append])⟩
            | 0, hj | 1, hj | 2, hj | 4, hj | 5, hj | 6, hj => simp [mL] at hj
            | _ + 7, hj => simp [mL] at hj
          · intro j p hj h1 h2 h3 h4 h5 u hu
            match j, hj, hu with
            | 0, _, hu => exact Below.trans hu r3
            | 1, hj, _ => cases hj; exact absurd (h4 8 rfl) (by rw [(hsee 109 8 (by kernel_rfl) rfl).1]; simp)
            | 2, hj, _ => cases hj; exact absurd rfl h1
            | 3, hj, _ => cases hj; exact absurd rfl h2
            | 4, hj, _ => cases hj; exact absurd hei (hT.set [18, 17, 16, 14, 10] 20 (h5 20 rfl) (by kernel_rfl) 10 rfl)
            | 5, hj, _ => cases hj; exact absurd hei (hT.set [18, 17, 16, 14, 10] 22 (h5 22 rfl) (by kernel_rfl) 10 rfl)
            | 6, hj, _ => cases hj; exact absurd hei (hT.set [18, 17, 16, 14, 10] 24 (h5 24 rfl) (by kernel_rfl) 10 rfl)
            | _ + 7, _, _ => trivial
        · have h0 : A'.eval (.tmp 12) = .pointer (some ⟨N + 1, 0, none⟩) := (haway 12 (by kernel_rfl)).trans rfl
          exact wp_of_run (run_load_state _ _ _ _ _ _ _ 12 (N + 1) _ h0 ((cellB hlow L1).trans d1)) ⟨_, rfl, rfl, .plain mQ_below (Below.refl _ _) (by decide)⟩
        · have h0 : A'.eval (.tmp 6) = .string part := (haway 6 (by kernel_rfl)).trans rfl
          exact wp_of_run (run_move _ _ _ _ _ _ _ 6 _ h0) ⟨_, rfl, rfl, .plain mQ_below (Below.refl _ _) (by decide)⟩
        · have h0 : A'.eval (.tmp 8) = .int .i64 day := (haway 8 (by kernel_rfl)).trans rfl
          exact wp_of_run (run_move _ _ _ _ _ _ _ 8 _ h0) ⟨_, rfl, rfl, .plain mQ_below (Below.refl _ _) (by decide)⟩
        · have qa : A'.eval (.tmp 106) = .agg #[.slice co cn cc] := sees 106 5 (by kernel_rfl) rfl
          have qc : A'.eval (.tmp 112) = .agg #[.slice so sn sc] := sees 112 11 (by kernel_rfl) rfl
          have qd : A'.eval (.tmp 113) = .string part := sees 113 12 (by kernel_rfl) rfl
          have qe : A'.eval (.tmp 114) = .int .i64 day := sees 114 13 (by kernel_rfl) rfl
          obtain ⟨ao, cap, q5, q6⟩ := hT.of 3 (some 14) 10 rfl (fun j h => by cases h; exact hei) _ (hsee 111 10 (by kernel_rfl) rfl).1 (hwn.same (by kernel_rfl))
          refine wp_of_callN _ _ _ _ _ _ _ 14 _ [.tmp 106, .tmp 111, .tmp 112, .tmp 113, .tmp 114] [_, _, _, _, _] (by simp only [List.map_cons, List.map_nil]; rw [qa, q5, qc, qd, qe]) (by kernel_rfl) ?_
          refine (HP3.out HF.out ao cap w (below_step (below_step HW2.out HB10.out) hlow) q6).mono ?_
          rintro e' w' ⟨rfl, hb'⟩
          exact ⟨_, rfl, _, rfl, rfl, .plain mQ_below hb' (by decide)⟩
        · have h0 : A'.eval (.tmp 21) = .bool (y2) := (haway 21 (by kernel_rfl)).trans rfl
          exact wp_of_run (run_move _ _ _ _ _ _ _ 21 _ h0) ⟨_, rfl, rfl, .plain mQ_below (Below.refl _ _) (by decide)⟩
        · have qa : A'.eval (.tmp 115) = .bool (y2) := sees 115 14 (by kernel_rfl) rfl
          have qb : A'.eval (.tmp 116) = .bool (y2) := sees 116 15 (by kernel_rfl) rfl
          exact wp_of_run (run_same _ _ _ _ _ _ _ 115 116 _ _ qa qb) ⟨_, rfl, congrArg Value.bool (by simp), .plain mQ_below (Below.refl _ _) (by decide)⟩
        · have qa : A'.eval (.tmp 105) = .bool true := sees 105 4 (by kernel_rfl) rfl
          have ha := (hsee 105 4 (by kernel_rfl) rfl).1
          have hb := (hsee 117 16 (by kernel_rfl) rfl).2 (fun g b hg => by cases (show some (4, true) = some (g, b) from hg); rw [ha, qa])
          exact wp_of_run (run_and _ _ _ _ _ _ _ 105 117 true qa) ⟨_, rfl, hb, .plain mQ_below (Below.refl _ _) (by decide)⟩
        · have h0 : A'.eval (.tmp 118) = .bool true := sees 118 17 (by kernel_rfl) rfl
          exact wp_of_run (run_move _ _ _ _ _ _ _ 118 _ h0) ⟨_, rfl, rfl, .plain mQ_below (Below.refl _ _) (by decide)⟩
        · have h0 : A'.eval (.tmp 9) = .pointer (some ⟨N, 0, none⟩) := (haway 9 (by kernel_rfl)).trans rfl
          exact wp_of_run (run_load_cat _ _ _ _ _ _ _ 9 (N) _ h0 ((cellB hlow L0).trans d0)) ⟨_, rfl, rfl, .plain mQ_below (Below.refl _ _) (by decide)⟩
        · refine wp_of_run (run_none_subs _ _ _ _ _ _ _) ⟨_, rfl, trivial, .below mQ_below ((Below.refl _ _).alloc (Nat.le_refl _) _) ?_⟩
          intro j t hj
          match j, hj with
          | 4, _ => exact ⟨_, rfl, hlow.size, Whole.new _ _ _⟩
          | 0, hj | 1, hj | 2, hj | 3, hj | 5, hj | 6, hj => simp [mL] at hj
          | _ + 7, hj => simp [mL] at hj
        · have h0 : A'.eval (.tmp 2) = .slice eo more.length ec := (haway 2 (by kernel_rfl)).trans rfl
          exact wp_of_run (run_move _ _ _ _ _ _ _ 2 _ h0) ⟨_, rfl, rfl, .plain mQ_below (Below.refl _ _) (by decide)⟩
        · obtain ⟨g, q1, q2, q3⟩ := hT.of 4 (some 22) 20 rfl (fun j h => by cases h; exact hei) _ (hsee 121 20 (by kernel_rfl) rfl).1 (hwn.same (by kernel_rfl))
          have q4 : A'.eval (.tmp 122) = .slice eo more.length ec := sees 122 21 (by kernel_rfl) rfl
          obtain ⟨v, w', css, hr, r1, r2, r3⟩ := run_copy_list 25 Try.underlying25 hi1 hy0 hy1 hy2 rfl (by decide) stSub lenSub g q3 w10.heap.size q2 more more.length rfl (by unfold maxLen; omega) (by omega) eo ec (HEs2.out.below stSub (below_step HB10.out hlow))
          refine wp_of_run (run_append_two _ _ _ _ _ _ _ w' 121 122 _ _ _ _ q1 q4 hr) ⟨_, rfl, trivial, .below mQ_below r3 ?_⟩
          intro j t hj
          match j, hj with
          | 5, _ => exact ⟨css, r1, r2⟩
          | 0, hj | 1, hj | 2, hj | 3, hj | 4, hj | 6, hj => simp [mL] at hj
          | _ + 7, hj => simp [mL] at hj
        · have h0 : A'.eval (.tmp 1) = .slice bo subs.length bc := (haway 1 (by kernel_rfl)).trans rfl
          exact wp_of_run (run_move _ _ _ _ _ _ _ 1 _ h0) ⟨_, rfl, rfl, .plain mQ_below (Below.refl _ _) (by decide)⟩
        · obtain ⟨css, q1, q2⟩ := hT.of 5 (some 24) 22 rfl (fun j h => by cases h; exact hei) _ (hsee 123 22 (by kernel_rfl) rfl).1 (hwn.same (by kernel_rfl))
          have q4 : A'.eval (.tmp 124) = .slice bo subs.length bc := sees 124 23 (by kernel_rfl) rfl
          obtain ⟨v, w', dss, hr, r1, r2, r3⟩ := run_more_list 25 Try.underlying25 hi1 hy0 hy1 hy2 rfl (by decide) plainSub lenSub w10.heap.size hlow.size more subs more.length subs.length rfl _ css q1 q2 (by unfold maxLen; omega) (by omega) bo bc (HBs2.out.below stSub (below_step HB10.out hlow))
          refine wp_of_run (run_append_two _ _ _ _ _ _ _ w' 123 124 _ _ _ _ rfl q4 hr) ⟨_, rfl, trivial, ?_, ?_⟩
          · obtain ⟨ro, rc, rfl⟩ := owns_shapeM r1
            intro j t hj
            match j, hj with
            | 6, _ => exact ⟨ro, rc, rfl, r2.row r1 (by rw [List.length_append])⟩
            | 0, hj | 1, hj | 2, hj | 3, hj | 4, hj | 5, hj => simp [mL] at hj
            | _ + 7, hj => simp [mL] at hj
          · intro j p hj h1 h2 h3 h4 h5 u hu
            match j, hj, hu with
            | 0, _, hu => exact Below.trans hu r3
            | 1, hj, _ => cases hj; exact absurd (h4 8 rfl) (hT.set [17, 16, 14, 10, 8] 18 (by rw [hwn 18 true rfl]; simp) (by kernel_rfl) 8 rfl)
            | 2, hj, _ => cases hj; exact absurd (h4 10 rfl) (hT.set [17, 16, 14, 10] 18 (by rw [hwn 18 true rfl]; simp) (by kernel_rfl) 10 rfl)
            | 3, hj, _ => cases hj; exact absurd (h4 14 rfl) (hT.set [17, 16, 14] 18 (by rw [hwn 18 true rfl]; simp) (by kernel_rfl) 14 rfl)
            | 4, hj, _ => cases hj; exact absurd (h4 22 rfl) (by rw [(hsee 123 22 (by kernel_rfl) rfl).1]; simp)
            | 5, hj, _ => cases hj; exact absurd rfl h1
            | 6, hj, _ => cases hj; exact absurd rfl h2
            | _ + 7, _, _ => trivial
        · have h0 : A'.eval (.tmp 12) = .pointer (some ⟨N + 1, 0, none⟩) := (haway 12 (by kernel_rfl)).trans rfl
          exact wp_of_run (run_load_state _ _ _ _ _ _ _ 12 (N + 1) _ h0 ((cellB hlow L1).trans d1)) ⟨_, rfl, rfl, .plain mQ_below (Below.refl _ _) (by decide)⟩
        · have h0 : A'.eval (.tmp 6) = .string part := (haway 6 (by kernel_rfl)).trans rfl
          exact wp_of_run (run_move _ _ _ _ _ _ _ 6 _ h0) ⟨_, rfl, rfl, .plain mQ_below (Below.refl _ _) (by decide)⟩
        · have h0 : A'.eval (.tmp 8) = .int .i64 day := (haway 8 (by kernel_rfl)).trans rfl
          exact wp_of_run (run_move _ _ _ _ _ _ _ 8 _ h0) ⟨_, rfl, rfl, .plain mQ_below (Below.refl _ _) (by decide)⟩
        · have qa : A'.eval (.tmp 120) = .agg #[.slice co cn cc] := sees 120 19 (by kernel_rfl) rfl
          have qc : A'.eval (.tmp 126) = .agg #[.slice so sn sc] := sees 126 25 (by kernel_rfl) rfl
          have qd : A'.eval (.tmp 127) = .string part := sees 127 26 (by kernel_rfl) rfl
          have qe : A'.eval (.tmp 128) = .int .i64 day := sees 128 27 (by kernel_rfl) rfl
          obtain ⟨ao, cap, q5, q6⟩ := hT.of 6 (some 28) 24 rfl (fun j h => by cases h; exact hei) _ (hsee 125 24 (by kernel_rfl) rfl).1 (hwn.same (by kernel_rfl))
          refine wp_of_callN _ _ _ _ _ _ _ 14 _ [.tmp 120, .tmp 125, .tmp 126, .tmp 127, .tmp 128] [_, _, _, _, _] (by simp only [List.map_cons, List.map_nil]; rw [qa, q5, qc, qd, qe]) (by kernel_rfl) ?_
          refine (HP4.out HF.out ao cap w (below_step (below_step HW2.out HB10.out) hlow) q6).mono ?_
          rintro e' w' ⟨rfl, hb'⟩
          exact ⟨_, rfl, _, rfl, rfl, .plain mQ_below hb' (by decide)⟩
        · have h0 : A'.eval (.tmp 21) = .bool (y2) := (haway 21 (by kernel_rfl)).trans rfl
          exact wp_of_run (run_move _ _ _ _ _ _ _ 21 _ h0) ⟨_, rfl, rfl, .plain mQ_below (Below.refl _ _) (by decide)⟩
        · have qa : A'.eval (.tmp 129) = .bool (y2) := sees 129 28 (by kernel_rfl) rfl
          have qb : A'.eval (.tmp 130) = .bool (y2) := sees 130 29 (by kernel_rfl) rfl
          exact wp_of_run (run_same _ _ _ _ _ _ _ 129 130 _ _ qa qb) ⟨_, rfl, congrArg Value.bool (by simp), .plain mQ_below (Below.refl _ _) (by decide)⟩
        · have qa : A'.eval (.tmp 119) = .bool true := sees 119 18 (by kernel_rfl) rfl
          have ha := (hsee 119 18 (by kernel_rfl) rfl).1
          have hb := (hsee 131 30 (by kernel_rfl) rfl).2 (fun g b hg => by cases (show some (18, true) = some (g, b) from hg); rw [ha, qa])
          exact wp_of_run (run_and _ _ _ _ _ _ _ 119 131 true qa) ⟨_, rfl, hb, .plain mQ_below (Below.refl _ _) (by decide)⟩
        · have h0 : A'.eval (.tmp 132) = .bool true := sees 132 31 (by kernel_rfl) rfl
          exact wp_of_run (run_assign _ _ _ _ _ _ _ 132 _ h0) ⟨_, rfl, rfl, .plain mQ_below (Below.refl _ _) (by decide)⟩
      intro e w11 hT hall
      obtain ⟨z0, h0⟩ := hall 0 (by decide)
      obtain ⟨z1, h1⟩ := hall 1 (by decide)
      obtain ⟨z2, h2⟩ := hall 2 (by decide)
      obtain ⟨z3, h3⟩ := hall 3 (by decide)
      obtain ⟨z4, h4⟩ := hall 4 (by decide)
      obtain ⟨z5, h5⟩ := hall 5 (by decide)
      obtain ⟨z6, h6⟩ := hall 6 (by decide)
      obtain ⟨z7, h7⟩ := hall 7 (by decide)
      obtain ⟨z8, h8⟩ := hall 8 (by decide)
      obtain ⟨z9, h9⟩ := hall 9 (by decide)
      obtain ⟨z10, h10⟩ := hall 10 (by decide)
      obtain ⟨z11, h11⟩ := hall 11 (by decide)
      obtain ⟨z12, h12⟩ := hall 12 (by decide)
      obtain ⟨z13, h13⟩ := hall 13 (by decide)
      obtain ⟨z14, h14⟩ := hall 14 (by decide)
      obtain ⟨z15, h15⟩ := hall 15 (by decide)
      obtain ⟨z16, h16⟩ := hall 16 (by decide)
      obtain ⟨z17, h17⟩ := hall 17 (by decide)
      obtain ⟨z18, h18⟩ := hall 18 (by decide)
      obtain ⟨z19, h19⟩ := hall 19 (by decide)
      obtain ⟨z20, h20⟩ := hall 20 (by decide)
      obtain ⟨z21, h21⟩ := hall 21 (by decide)
      obtain ⟨z22, h22⟩ := hall 22 (by decide)
      obtain ⟨z23, h23⟩ := hall 23 (by decide)
      obtain ⟨z24, h24⟩ := hall 24 (by decide)
      obtain ⟨z25, h25⟩ := hall 25 (by decide)
      obtain ⟨z26, h26⟩ := hall 26 (by decide)
      obtain ⟨z27, h27⟩ := hall 27 (by decide)
      obtain ⟨z28, h28⟩ := hall 28 (by decide)
      obtain ⟨z29, h29⟩ := hall 29 (by decide)
      obtain ⟨z30, h30⟩ := hall 30 (by decide)
      obtain ⟨z31, h31⟩ := hall 31 (by decide)
      obtain ⟨z32, h32⟩ := hall 32 (by decide)
      obtain rfl := hT.pure 32 _ h32 (fun g b h => by cases h)
      have HB11 := Lib.hid (show Below w10.heap.size w10 w11 from hT.base 0 none rfl (fun _ h => by cases h))
      simp only [List.length_cons, List.length_nil, Nat.reduceAdd, fillTo, h0, h1, h2, h3, h4, h5, h6, h7, h8, h9, h10, h11, h12, h13, h14, h15, h16, h17, h18, h19, h20, h21, h22, h23, h24, h25, h26, h27, h28, h29, h30, h31, h32, dstOf]
      clear hT hall h0 h1 h2 h3 h4 h5 h6 h7 h8 h9 h10 h11 h12 h13 h14 h15 h16 h17 h18 h19 h20 h21 h22 h23 h24 h25 h26 h27 h28 h29 h30 h31 h32 d0 d1 L0 L1
      go_simp
      go_wp2_with fail
      go_ret
      exact ⟨rfl, below_step HW2.out (below_step HB10.out HB11.out)⟩


end Go.Proofs.Ytapjnbofhdljfaa
