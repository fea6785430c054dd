/- Exempt. -/
import Derived.Test.YtapjnbofhdljfaaConMath
namespace Go.Proofs.Ytapjnbofhdljfaa
open Go.RowKit
open Cat

set_option maxRecDepth 100000 in
set_option maxHeartbeats 2000000 in
theorem ex1_any (c : Cn) (part rule : ByteArray) (day : Int) (g1 g2 g3 : Nat) (W : World) (h1 : W.cell? ⟨g1, 0, none⟩ = some (.string part)) (h2 : W.cell? ⟨g2, 0, none⟩ = some (.string rule)) (h3 : W.cell? ⟨g3, 0, none⟩ = some (.int .i64 day)) :
    Calls Try.prog 23 #[.agg #[.string c.part, .string c.rule, .int .i64 c.to], .pointer (some ⟨g1, 0, none⟩), .pointer (some ⟨g2, 0, none⟩), .pointer (some ⟨g3, 0, none⟩)] W fun e w' => e = .returned (.bool (Con.exc part rule day c)) ∧ Below W.heap.size W w' := by
  obtain ⟨cp, cr, ct⟩ := c
  have l1 := lt_of_cell h1
  have l2 := lt_of_cell h2
  have l3 := lt_of_cell h3
  unfold Con.exc
  dsimp only
  obtain ⟨b1, e1⟩ : ∃ b, (cp.toList == part.toList) = b := ⟨_, rfl⟩
  obtain ⟨b2, e2⟩ : ∃ b, (cr.toList == rule.toList) = b := ⟨_, rfl⟩
  obtain ⟨b3, e3⟩ : ∃ b, decide (day ≤ ct) = b := ⟨_, rfl⟩
  rw [← Con.eq_list, ← Con.eq_list, e1, e2, e3]
  have HB : Hid (∀ o, Below W.heap.size W (W.alloc o)) := Lib.hid (fun o => (Below.refl _ _).alloc (Nat.le_refl _) _)
  obtain ⟨V, HV⟩ : ∃ w, Hid (w = W.alloc (.cells #[.string cp, .string cr, .int .i64 ct] 56)) := ⟨_, Lib.hid rfl⟩
  go_enter Try.func23, Try.ntmps23
  cases b1 <;> cases b2
  all_goals
    go_wp2_with fail
    go_ret
    exact ⟨rfl, HB.out _⟩

set_option maxRecDepth 100000 in
set_option maxHeartbeats 4000000 in
theorem someC_any (part rule : ByteArray) (day : Int) (g1 g2 g3 : Nat) (ao : Option Addr) (l : List Cn) (cap : Nat) (hl : l.length ≤ 9223372036854775807) (W : World) (hi : IsL 3 ElCon W ao l) (h1 : W.cell? ⟨g1, 0, none⟩ = some (.string part)) (h2 : W.cell? ⟨g2, 0, none⟩ = some (.string rule)) (h3 : W.cell? ⟨g3, 0, none⟩ = some (.int .i64 day)) :
    Calls Try.prog 22 #[.slice ao l.length cap, .func (.func 23) #[] #[.pointer (some ⟨g1, 0, none⟩), .pointer (some ⟨g2, 0, none⟩), .pointer (some ⟨g3, 0, none⟩)]] W fun e w' => e = .returned (.bool (l.any (Con.exc part rule day))) ∧ Below W.heap.size W w' := by
  have l1 := lt_of_cell h1
  have l2 := lt_of_cell h2
  have l3 := lt_of_cell h3
  have HC := Lib.hid (fun (c : Cn) (w : World) (hw : Below W.heap.size W w) => ex1_any c part rule day g1 g2 g3 w ((cellB hw l1).trans h1) ((cellB hw l2).trans h2) ((cellB hw l3).trans h3))
  have HM := Lib.hid hi
  clear hi h1 h2 h3 l1 l2 l3
  obtain ⟨u, Hu⟩ : ∃ u, Hid (u = l.any (Con.exc part rule day)) := ⟨_, Lib.hid rfl⟩
  rw [← Hu.out]
  obtain ⟨n, Hn⟩ : ∃ n, Hid (n = l.length) := ⟨_, Lib.hid rfl⟩
  rw [← Hn.out]
  rw [← Hn.out] at hl
  go_enter Try.func22, Try.ntmps22
  go_wp2_with fail
  go_loopw [9] (fun i wr => ∃ k : Nat, k ≤ n ∧ i = .int .i64 k ∧ Hid (Below W.heap.size W wr ∧ (l.take k).any (Con.exc part rule day) = false)) (fun i _ => n - (intOf i).toNat)
  case atStart => exact ⟨0, Nat.zero_le _, by go_num, Lib.hid ⟨Below.refl _ _, rfl⟩⟩
  case round =>
    obtain ⟨k, hk, rfl, HR⟩ := hrel
    by_cases hkn : k < n
    · have hd : decide ((k : Int) < n) = true := decide_eq_true (by omega)
      have hb0 : (0 : Int) ≤ k := by omega
      have hb1 : (k : Int) < n := by omega
      have hkl : k < l.length := by rw [← Hn.out]; exact hkn
      obtain ⟨bk, off, cs, rfl, hbk, hrg, hel⟩ := HM.out.at hkl
      obtain ⟨c, Hc⟩ : ∃ m, Hid (m = l[k]) := ⟨_, Lib.hid rfl⟩
      rw [← Hc.out] at hel
      unfold ElCon at hel
      subst hel
      have hrg := rangeB hrg hbk HR.out.1
      have c0 := hrg 0 _ rfl
      have c1 := hrg 1 _ rfl
      have c2 := hrg 2 _ rfl
      rw [Nat.add_zero] at c0
      obtain ⟨V, HV⟩ : ∃ w, Hid (w = wr.alloc (.cells #[.string c.part, .string c.rule, .int .i64 c.to] 56)) := ⟨_, Lib.hid rfl⟩
      have HBV : Hid (Below W.heap.size W V) := Lib.hid (by rw [HV.out]; exact below_alloc HR.out.1 _)
      have hC := Lib.hid (HC.out c V HBV.out)
      obtain ⟨b, Hb⟩ : ∃ u, Hid (u = Con.exc part rule day c) := ⟨_, Lib.hid rfl⟩
      rw [← Hb.out] at hC
      obtain ⟨cp, cr, ct⟩ := c
      dsimp only at hC c0 c1 c2 HV
      clear hrg
      cases b with
      | true =>
        have HA : Hid (u = true) := Lib.hid (by rw [Hu.out]; exact Con.some_here hkl (by rw [← Hc.out]; exact Hb.out.symm))
        go_wp2_with fail
        rw [← HV.out]
        refine hC.out.mono ?_
        rintro e w' ⟨rfl, hw⟩
        have HW := Lib.hid (below_step HBV.out hw)
        clear hw
        go_wp2_with fail
        go_ret
        obtain rfl := HA.out
        exact ⟨rfl, HW.out⟩
      | false =>
        have HN := Lib.hid (Con.some_next hkl HR.out.2 (by rw [← Hc.out]; exact Hb.out.symm))
        go_wp2_with fail
        rw [← HV.out]
        refine hC.out.mono ?_
        rintro e w' ⟨rfl, hw⟩
        have HW := Lib.hid (below_step HBV.out hw)
        clear hw
        go_wp2_with fail
        go_round
        case rel => exact ⟨k + 1, by omega, by go_num, Lib.hid ⟨HW.out, HN.out⟩⟩
        case measure => simp [intOf]; omega
    · obtain rfl : k = n := by omega
      have hd : decide ((k : Int) < k) = false := decide_eq_false (by omega)
      have HA : Hid (u = false) := Lib.hid (by rw [Hu.out]; exact Con.some_end (by have := HR.out.2; rwa [Hn.out] at this))
      go_wp2_with fail
      go_ret
      obtain rfl := HA.out
      exact ⟨rfl, HR.out.1⟩

set_option maxRecDepth 100000 in
set_option maxHeartbeats 2000000 in
theorem exempt_any (part rule : ByteArray) (day : Int) (ao : Option Addr) (l : List Cn) (cap : Nat) (hl : l.length ≤ 9223372036854775807) (W : World) (hi : IsL 3 ElCon W ao l) :
    Calls Try.prog 12 #[.slice ao l.length cap, .string part, .string rule, .int .i64 day] W fun e w' => e = .returned (.bool (Con.exempt l part rule day)) ∧ Below W.heap.size W w' := by
  have hmf : ∀ (fn : Fn) (first cap : Array Value) (w : World), (Instr.makeFunc fn first cap).run Try.prog w = .ok (.func fn first cap) w := fun _ _ _ _ => rfl
  obtain ⟨V, HV⟩ : ∃ w, Hid (w = ((W.alloc (.cells #[.string part] 9)).alloc (.cells #[.string rule] 9)).alloc (.cells #[.int .i64 day] 3)) := ⟨_, Lib.hid rfl⟩
  have HB : Hid (Below W.heap.size W V) := Lib.hid (by rw [HV.out]; exact below_alloc (below_alloc ((Below.refl _ _).alloc (Nat.le_refl _) _) _) _)
  have HS := Lib.hid (someC_any part rule day W.heap.size (W.heap.size + 1) (W.heap.size + 1 + 1) ao l cap hl V (hi.below stCon HB.out) (by rw [HV.out]; go_simp) (by rw [HV.out]; go_simp) (by rw [HV.out]; go_simp))
  unfold Con.exempt
  clear hi
  obtain ⟨u, Hu⟩ : ∃ u, Hid (u = l.any (Con.exc part rule day)) := ⟨_, Lib.hid rfl⟩
  rw [← Hu.out] at HS ⊢
  obtain ⟨n, Hn⟩ : ∃ n, Hid (n = l.length) := ⟨_, Lib.hid rfl⟩
  rw [← Hn.out] at HS ⊢
  go_enter Try.func12, Try.ntmps12
  go_wp2_with fail
  rw [← HV.out]
  refine HS.out.mono ?_
  rintro e w' ⟨rfl, hw⟩
  have HW := Lib.hid (below_step HB.out hw)
  clear hw
  go_wp2_with fail
  go_ret
  exact ⟨rfl, HW.out⟩
end Go.Proofs.Ytapjnbofhdljfaa
