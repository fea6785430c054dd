/- ConcedeMatchesReference. -/
import Derived.Test.YtapjnbofhdljfaaConRefD
namespace Go.Proofs.Ytapjnbofhdljfaa
open Go.RowKit
open Cat

set_option maxRecDepth 100000 in
set_option maxHeartbeats 8000000 in
theorem matches_any (c : List Knd) (co : Option Addr) (cc : Nat) (hlc : c.length ≤ 9223372036854775807) (subs : List Sb) (bo : Option Addr) (bc : Nat) (hlb : subs.length ≤ 9223372036854775807) (s : List Prt) (so : Option Addr) (sc : Nat) (hls : s.length ≤ 9223372036854775807)
    (l : List Cn) (lo : Option Addr) (lc : Nat) (hll : l.length ≤ 9223372036854775807) (part rule : ByteArray) (day : Int) (W : World) (hc : IsL 3 ElKnd W co c) (hb : IsL 5 ElSub W bo subs) (hi : IsL 14 ElPrt W so s) (hl : IsL 3 ElCon W lo l) :
    Calls Try.prog 3 #[.agg #[.slice co c.length cc], .slice bo subs.length bc, .agg #[.slice so s.length sc], .slice lo l.length lc, .string part, .string rule, .int .i64 day] W fun e w' => e = .returned (.bool true) ∧ Below W.heap.size W w' := by
  have HFew := Lib.hid (fun (w : World) (hw : Below W.heap.size W w) => few27_any co c cc bo subs bc so s sc hlc hlb hls w (hc.below stKnd hw) (hb.below stSub hw) (hi.below stPrt hw))
  have HSh := Lib.hid (fun (w : World) (hw : Below W.heap.size W w) => short_any lo l lc hll w (hl.below stCon hw))
  have HE := Lib.hid (fun (day : Int) (w : World) (hw : Below W.heap.size W w) => exempt_any part rule day lo l lc hll w (hl.below stCon hw))
  have HP := Lib.hid (fun (hf : FewProps s) (day : Int) (w : World) (hw : Below W.heap.size W w) => permitted_any co c cc bo subs bc so s sc part day hlc hlb hf w (hc.below stKnd hw) (hb.below stSub hw) (hi.below stPrt hw))
  have HRE := Lib.hid (fun (w : World) (hw : Below W.heap.size W w) => refEx_any part rule day lo l lc hll w (hl.below stCon hw))
  have HRP := Lib.hid (fun (w : World) (hw : Below W.heap.size W w) => refPermitted_any co c cc bo subs bc so s sc part day hlc hlb hls w (hc.below stKnd hw) (hb.below stSub hw) (hi.below stPrt hw))
  have HH := Lib.hid head_any
  obtain ⟨cn, Hcn⟩ : ∃ n, Hid (n = c.length) := ⟨_, Lib.hid rfl⟩
  obtain ⟨bn, Hbn⟩ : ∃ n, Hid (n = subs.length) := ⟨_, Lib.hid rfl⟩
  obtain ⟨sn, Hsn⟩ : ∃ n, Hid (n = s.length) := ⟨_, Lib.hid rfl⟩
  obtain ⟨ln, Hln⟩ : ∃ n, Hid (n = l.length) := ⟨_, Lib.hid rfl⟩
  rw [← Hcn.out, ← Hbn.out, ← Hsn.out] at HFew HP HRP
  rw [← Hln.out] at HSh HE HRE
  rw [← Hcn.out, ← Hbn.out, ← Hsn.out, ← Hln.out]
  clear hc hb hi hl
  obtain ⟨N, HN⟩ : ∃ N, Hid (N = W.heap.size) := ⟨_, Lib.hid rfl⟩
  obtain ⟨V, HV⟩ : ∃ w, Hid (w = (W.alloc (.cells #[.slice co cn cc] 24)).alloc (.cells #[.slice so sn sc] 28)) := ⟨_, Lib.hid rfl⟩
  have HB : Hid (Below W.heap.size W V) := Lib.hid (by rw [HV.out]; exact below_alloc ((Below.refl _ _).alloc (Nat.le_refl _) _) _)
  have v0 : V.cell? ⟨N, 0, none⟩ = some (.slice co cn cc) := by rw [HV.out, HN.out]; go_simp
  have v1 : V.cell? ⟨N + 1, 0, none⟩ = some (.slice so sn sc) := by rw [HV.out, HN.out]; go_simp
  have l0 := lt_of_cell v0
  have l1 := lt_of_cell v1
  go_enter Try.func3, Try.ntmps3
  go_wp2_with fail
  rw [← HN.out, ← HV.out]
  refine (HH.out V).mono ?_
  rintro e w1 ⟨rfl, hb1⟩
  have HB1 := Lib.hid hb1
  have d0 := (cellB hb1 l0).trans v0
  have d1 := (cellB hb1 l1).trans v1
  clear hb1
  go_wp2_with fail
  refine (HFew.out w1 (below_step HB.out HB1.out)).mono ?_
  rintro e w2 ⟨b2, rfl, hf, hb2⟩
  have HB2 := Lib.hid (below_step HB1.out hb2)
  clear hb2 d0 d1
  cases b2 with
  | false =>
    go_wp2_with fail
    go_ret
    exact ⟨rfl, below_step HB.out HB2.out⟩
  | true =>
  have HF := Lib.hid (show FewProps s from by
    obtain ⟨q1, q2, q3⟩ := hf rfl
    exact ⟨by rw [← Hsn.out]; omega, fun p hp => by have := q3 p hp; omega⟩)
  clear hf
  go_wp2_with fail
  refine (HSh.out w2 (below_step HB.out HB2.out)).mono ?_
  rintro e w3 ⟨b3, rfl, _, hb3⟩
  have HB3 := Lib.hid (below_step HB2.out hb3)
  clear hb3
  cases b3 with
  | false =>
    go_wp2_with fail
    go_ret
    exact ⟨rfl, below_step HB.out HB3.out⟩
  | true =>
  obtain ⟨b6, e6⟩ : ∃ b, decide ((600 : Int) < wrap64 ((part.size : Int) + (rule.size : Int))) = b := ⟨_, rfl⟩
  cases b6 with
  | true =>
    go_wp2_with fail
    go_ret
    exact ⟨rfl, below_step HB.out HB3.out⟩
  | false =>
  obtain ⟨x1, Hx1⟩ : ∃ x, Hid (x = Con.exempt l part rule day) := ⟨_, Lib.hid rfl⟩
  obtain ⟨x2, Hx2⟩ : ∃ x, Hid (x = Con.permitted c subs s part day) := ⟨_, Lib.hid rfl⟩
  have HB3W := Lib.hid (below_step HB.out HB3.out)
  have hE : Hid (∀ Z : Grown w3, Calls Try.prog 12 #[.slice lo ln lc, .string part, .string rule, .int .i64 day] Z.w fun e w' => e = .returned (.bool x1) ∧ Below Z.w.heap.size Z.w w') := Lib.hid (fun Z => by rw [Hx1.out]; exact HE.out day Z.w (below_step HB3W.out Z.below))
  have hR : Hid (∀ Z : Grown w3, Calls Try.prog 13 #[.slice lo ln lc, .string part, .string rule, .int .i64 day] Z.w fun e w' => e = .returned (.bool x1) ∧ Z.w = w') := Lib.hid (fun Z => by rw [Hx1.out]; exact HRE.out Z.w (below_step HB3W.out Z.below))
  have hP : Hid (∀ Z : Grown w3, Calls Try.prog 14 #[.agg #[.slice co cn cc], .slice bo bn bc, .agg #[.slice so sn sc], .string part, .int .i64 day] Z.w fun e w' => e = .returned (.bool x2) ∧ Below Z.w.heap.size Z.w w') := Lib.hid (fun Z => by rw [Hx2.out]; exact HP.out HF.out day Z.w (below_step HB3W.out Z.below))
  have hQ : Hid (∀ Z : Grown w3, Calls Try.prog 15 #[.agg #[.slice co cn cc], .slice bo bn bc, .agg #[.slice so sn sc], .string part, .int .i64 day] Z.w fun e w' => e = .returned (.bool x2) ∧ Below Z.w.heap.size Z.w w') := Lib.hid (fun Z => by rw [Hx2.out]; exact HRP.out Z.w (below_step HB3W.out Z.below))
  have d0 := (cellB HB3.out l0).trans v0
  have d1 := (cellB HB3.out l1).trans v1
  have hNl := lt_of_cell d0
  have hNl1 := lt_of_cell d1
  have gx0 : ∀ Z : Grown w3, Z.w.cell? ⟨N, 0, none⟩ = some (.slice co cn cc) := fun Z => by rw [Z.cell hNl]; exact d0
  have gx1 : ∀ Z : Grown w3, Z.w.cell? ⟨N + 1, 0, none⟩ = some (.slice so sn sc) := fun Z => by rw [Z.cell hNl1]; exact d1
  clear d0 d1 v0 v1
  cases x1 <;> cases x2
  all_goals
    go_wp2_with fail
    refine wp_region_grown (by kernel_rfl) (by kernel_rfl) ?_
    iterate 7 (go_big_quiet_step (exact grown_of (hE.out _)))
    iterate 5 (go_big_quiet_step (exact grown_of_same (hR.out _)))
    iterate 9 (go_big_quiet_step (exact grown_of (hP.out _)))
    repeat (go_big_quiet_step (exact grown_of (hQ.out _)))
    refine wpQuiet_nil ?_
    rintro _ ⟨Z, rfl⟩
    go_wp2_with fail
    go_ret
    exact ⟨rfl, below_step HB3W.out Z.below⟩
theorem matches_row (co : Option Addr) (c : List Knd) (cc : Nat) (hlc : c.length ≤ 9223372036854775807) (bo : Option Addr) (subs : List Sb) (bc : Nat) (hlb : subs.length ≤ 9223372036854775807) (so : Option Addr) (s : List Prt) (sc : Nat) (hls : s.length ≤ 9223372036854775807)
    (lo : Option Addr) (l : List Cn) (lc : Nat) (hll : l.length ≤ 9223372036854775807) (part rule : ByteArray) (day : Int) (W : World) (hc : IsL 3 ElKnd W co c) (hb : IsL 5 ElSub W bo subs) (hi : IsL 14 ElPrt W so s) (hl : IsL 3 ElCon W lo l) :
    Calls Try.prog 3 #[.agg #[.slice co c.length cc], .slice bo subs.length bc, .agg #[.slice so s.length sc], .slice lo l.length lc, .string part, .string rule, .int .i64 day] W fun e w' => e = .returned (.bool true) ∧ Below W.heap.size W w' :=
  matches_any c co cc hlc subs bo bc hlb s so sc hls l lo lc hll part rule day W hc hb hi hl

end Go.Proofs.Ytapjnbofhdljfaa
