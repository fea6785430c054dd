/- ConcedeDays. -/
import Derived.Test.YtapjnbofhdljfaaConHead
namespace Go.Proofs.Ytapjnbofhdljfaa
open Go.RowKit
open Cat

namespace Con
theorem exempt_day {l : List Cn} {p r : ByteArray} {a b : Int} (h : a ≤ b) (hb : exempt l p r b = true) : exempt l p r a = true := by
  unfold exempt at hb ⊢
  obtain ⟨c, hc, hx⟩ := List.any_eq_true.1 hb
  refine List.any_eq_true.2 ⟨c, hc, ?_⟩
  unfold exc at hx ⊢
  simp only [Bool.and_eq_true, decide_eq_true_eq] at hx ⊢
  exact ⟨hx.1, hx.2.1, by omega⟩
theorem permits_day {s : List Prt} {host p : Prt} {a b : Int} {x : Sb} (h : a ≤ b) (hb : permits s host p b x = true) : permits s host p a x = true := by
  unfold permits at hb ⊢
  simp only [Bool.and_eq_true, decide_eq_true_eq] at hb ⊢
  exact ⟨hb.1, hb.2.1, hb.2.2.1, by omega, hb.2.2.2.2⟩
theorem permitted_day {c : List Knd} {subs : List Sb} {s : List Prt} {part : ByteArray} {a b : Int} (h : a ≤ b) (hb : permitted c subs s part b = true) : permitted c subs s part a = true := by
  unfold permitted at hb ⊢
  cases hf : find s part with
  | none => rw [hf] at hb; cases hb
  | some p =>
    rw [hf] at hb
    dsimp only at hb ⊢
    by_cases hi : p.into = empty
    · rw [if_pos hi]
    · rw [if_neg hi] at hb ⊢
      cases hh : find s p.into with
      | none => rw [hh] at hb; cases hb
      | some host =>
        rw [hh] at hb
        dsimp only at hb ⊢
        rw [Bool.or_eq_true] at hb ⊢
        rcases hb with hb | hb
        · exact Or.inl hb
        · obtain ⟨x, hx, hp⟩ := List.any_eq_true.1 hb
          exact Or.inr (List.any_eq_true.2 ⟨x, hx, permits_day h hp⟩)
end Con

set_option maxRecDepth 100000 in
set_option maxHeartbeats 8000000 in
theorem days_any (c : List Knd) (co : Option Addr) (cc : Nat) (hlc : c.length ≤ 9223372036854775807) (subs : List Sb) (bo : Option Addr) (bc : Nat) (hlb : subs.length ≤ 9223372036854775807) (s : List Prt) (so : Option Addr) (sc : Nat) (hls : s.length ≤ 9223372036854775807)
    (l : List Cn) (lo : Option Addr) (lc : Nat) (hll : l.length ≤ 9223372036854775807) (part rule : ByteArray) (one two : Int) (W : World) (hc : IsL 3 ElKnd W co c) (hb : IsL 5 ElSub W bo subs) (hi : IsL 14 ElPrt W so s) (hl : IsL 3 ElCon W lo l) :
    Calls Try.prog 4 #[.agg #[.slice co c.length cc], .slice bo subs.length bc, .agg #[.slice so s.length sc], .slice lo l.length lc, .string part, .string rule, .int .i64 one, .int .i64 two] W fun e w' => e = .returned (.bool true) ∧ Below W.heap.size W w' := by
  have HFew := Lib.hid (fun (w : World) (hw : Below W.heap.size W w) => few27_any co c cc bo subs bc so s sc hlc hlb hls w (hc.below stKnd hw) (hb.below stSub hw) (hi.below stPrt hw))
  have HSh := Lib.hid (fun (w : World) (hw : Below W.heap.size W w) => short_any lo l lc hll w (hl.below stCon hw))
  have HE := Lib.hid (fun (day : Int) (w : World) (hw : Below W.heap.size W w) => exempt_any part rule day lo l lc hll w (hl.below stCon hw))
  have HP := Lib.hid (fun (hf : FewProps s) (day : Int) (w : World) (hw : Below W.heap.size W w) => permitted_any co c cc bo subs bc so s sc part day hlc hlb hf w (hc.below stKnd hw) (hb.below stSub hw) (hi.below stPrt hw))
  have HH := Lib.hid head_any
  obtain ⟨cn, Hcn⟩ : ∃ n, Hid (n = c.length) := ⟨_, Lib.hid rfl⟩
  obtain ⟨bn, Hbn⟩ : ∃ n, Hid (n = subs.length) := ⟨_, Lib.hid rfl⟩
  obtain ⟨sn, Hsn⟩ : ∃ n, Hid (n = s.length) := ⟨_, Lib.hid rfl⟩
  obtain ⟨ln, Hln⟩ : ∃ n, Hid (n = l.length) := ⟨_, Lib.hid rfl⟩
  rw [← Hcn.out, ← Hbn.out, ← Hsn.out] at HFew HP
  rw [← Hln.out] at HSh HE
  rw [← Hcn.out, ← Hbn.out, ← Hsn.out, ← Hln.out]
  clear hc hb hi hl
  obtain ⟨N, HN⟩ : ∃ N, Hid (N = W.heap.size) := ⟨_, Lib.hid rfl⟩
  obtain ⟨V, HV⟩ : ∃ w, Hid (w = (W.alloc (.cells #[.slice co cn cc] 24)).alloc (.cells #[.slice so sn sc] 28)) := ⟨_, Lib.hid rfl⟩
  have HB : Hid (Below W.heap.size W V) := Lib.hid (by rw [HV.out]; exact below_alloc ((Below.refl _ _).alloc (Nat.le_refl _) _) _)
  have v0 : V.cell? ⟨N, 0, none⟩ = some (.slice co cn cc) := by rw [HV.out, HN.out]; go_simp
  have v1 : V.cell? ⟨N + 1, 0, none⟩ = some (.slice so sn sc) := by rw [HV.out, HN.out]; go_simp
  have l0 := lt_of_cell v0
  have l1 := lt_of_cell v1
  go_enter Try.func4, Try.ntmps4
  go_wp2_with fail
  rw [← HN.out, ← HV.out]
  refine (HH.out V).mono ?_
  rintro e w1 ⟨rfl, hb1⟩
  have HB1 := Lib.hid hb1
  have d0 := (cellB hb1 l0).trans v0
  have d1 := (cellB hb1 l1).trans v1
  clear hb1
  go_wp2_with fail
  refine (HFew.out w1 (below_step HB.out HB1.out)).mono ?_
  rintro e w2 ⟨b2, rfl, hf, hb2⟩
  have HB2 := Lib.hid (below_step HB1.out hb2)
  clear hb2 d0 d1
  cases b2 with
  | false =>
    go_wp2_with fail
    go_ret
    exact ⟨rfl, below_step HB.out HB2.out⟩
  | true =>
  have HF := Lib.hid (show FewProps s from by
    obtain ⟨q1, q2, q3⟩ := hf rfl
    exact ⟨by rw [← Hsn.out]; omega, fun p hp => by have := q3 p hp; omega⟩)
  clear hf
  go_wp2_with fail
  refine (HSh.out w2 (below_step HB.out HB2.out)).mono ?_
  rintro e w3 ⟨b3, rfl, _, hb3⟩
  have HB3 := Lib.hid (below_step HB2.out hb3)
  clear hb3
  cases b3 with
  | false =>
    go_wp2_with fail
    go_ret
    exact ⟨rfl, below_step HB.out HB3.out⟩
  | true =>
  obtain ⟨b6, e6⟩ : ∃ b, decide ((600 : Int) < wrap64 ((part.size : Int) + (rule.size : Int))) = b := ⟨_, rfl⟩
  cases b6 with
  | true =>
    go_wp2_with fail
    go_ret
    exact ⟨rfl, below_step HB.out HB3.out⟩
  | false =>
  obtain ⟨mi, hmi⟩ : ∃ m, min one two = m := ⟨_, rfl⟩
  obtain ⟨ma, hma⟩ : ∃ m, max one two = m := ⟨_, rfl⟩
  have hle : mi ≤ ma := by omega
  have Hle := Lib.hid hle
  clear hle
  go_wp2_with fail
  clear e6 hmi hma
  have HEnd : Hid (∀ w4, Below V.heap.size V w4 → Below W.heap.size W w4) := Lib.hid (fun w4 h => below_step HB.out h)
  obtain ⟨x1, Hx1⟩ : ∃ x, Hid (x = Con.exempt l part rule ma) := ⟨_, Lib.hid rfl⟩
  have q1 := HE.out ma w3 (below_step HB.out HB3.out)
  rw [← Hx1.out] at q1
  refine q1.mono ?_
  rintro e w4 ⟨rfl, hb4⟩
  have HB4 := Lib.hid (below_step HB3.out hb4)
  clear hb4 q1
  obtain ⟨x3, Hx3⟩ : ∃ x, Hid (x = Con.permitted c subs s part ma) := ⟨_, Lib.hid rfl⟩
  cases x1 with
  | false =>
    have d0 := (cellB HB4.out l0).trans v0
    have d1 := (cellB HB4.out l1).trans v1
    go_wp2_with fail
    have q3 := HP.out HF.out ma w4 (below_step HB.out HB4.out)
    rw [← Hx3.out] at q3
    refine q3.mono ?_
    rintro e w6 ⟨rfl, hb6⟩
    have HB6 := Lib.hid (below_step HB4.out hb6)
    clear hb6 q3 d0 d1
    cases x3 with
    | false =>
      go_wp2_with fail
      go_ret
      exact ⟨rfl, HEnd.out _ HB6.out⟩
    | true =>
      have d0 := (cellB HB6.out l0).trans v0
      have d1 := (cellB HB6.out l1).trans v1
      have q4 := HP.out HF.out mi w6 (below_step HB.out HB6.out)
      rw [Con.permitted_day Hle.out Hx3.out.symm] at q4
      go_wp2_with fail
      refine q4.mono ?_
      rintro e w7 ⟨rfl, hb7⟩
      have HB7 := Lib.hid (below_step HB6.out hb7)
      clear hb7 q4
      go_wp2_with fail
      go_ret
      exact ⟨rfl, HEnd.out _ HB7.out⟩
  | true =>
    have q2 := HE.out mi w4 (below_step HB.out HB4.out)
    rw [Con.exempt_day Hle.out Hx1.out.symm] at q2
    go_wp2_with fail
    refine q2.mono ?_
    rintro e w5 ⟨rfl, hb5⟩
    have HB5 := Lib.hid (below_step HB4.out hb5)
    clear hb5 q2
    have d0 := (cellB HB5.out l0).trans v0
    have d1 := (cellB HB5.out l1).trans v1
    go_wp2_with fail
    have q3 := HP.out HF.out ma w5 (below_step HB.out HB5.out)
    rw [← Hx3.out] at q3
    refine q3.mono ?_
    rintro e w6 ⟨rfl, hb6⟩
    have HB6 := Lib.hid (below_step HB5.out hb6)
    clear hb6 q3 d0 d1
    cases x3 with
    | false =>
      go_wp2_with fail
      go_ret
      exact ⟨rfl, HEnd.out _ HB6.out⟩
    | true =>
      have d0 := (cellB HB6.out l0).trans v0
      have d1 := (cellB HB6.out l1).trans v1
      have q4 := HP.out HF.out mi w6 (below_step HB.out HB6.out)
      rw [Con.permitted_day Hle.out Hx3.out.symm] at q4
      go_wp2_with fail
      refine q4.mono ?_
      rintro e w7 ⟨rfl, hb7⟩
      have HB7 := Lib.hid (below_step HB6.out hb7)
      clear hb7 q4
      go_wp2_with fail
      go_ret
      exact ⟨rfl, HEnd.out _ HB7.out⟩
theorem days_row (co : Option Addr) (c : List Knd) (cc : Nat) (hlc : c.length ≤ 9223372036854775807) (bo : Option Addr) (subs : List Sb) (bc : Nat) (hlb : subs.length ≤ 9223372036854775807) (so : Option Addr) (s : List Prt) (sc : Nat) (hls : s.length ≤ 9223372036854775807)
    (lo : Option Addr) (l : List Cn) (lc : Nat) (hll : l.length ≤ 9223372036854775807) (part rule : ByteArray) (one two : Int) (W : World) (hc : IsL 3 ElKnd W co c) (hb : IsL 5 ElSub W bo subs) (hi : IsL 14 ElPrt W so s) (hl : IsL 3 ElCon W lo l) :
    Calls Try.prog 4 #[.agg #[.slice co c.length cc], .slice bo subs.length bc, .agg #[.slice so s.length sc], .slice lo l.length lc, .string part, .string rule, .int .i64 one, .int .i64 two] W fun e w' => e = .returned (.bool true) ∧ Below W.heap.size W w' :=
  days_any c co cc hlc subs bo bc hlb s so sc hls l lo lc hll part rule one two W hc hb hi hl

end Go.Proofs.Ytapjnbofhdljfaa
