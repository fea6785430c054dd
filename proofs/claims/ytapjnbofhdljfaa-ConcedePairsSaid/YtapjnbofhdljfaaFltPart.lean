/- Valid parts: what a true answer says. -/
import Derived.Test.YtapjnbofhdljfaaCatValid
import Derived.Test.YtapjnbofhdljfaaFltPos
namespace Go.Proofs.Ytapjnbofhdljfaa
open Go.RowKit
open Cat

set_option maxRecDepth 100000 in
set_option maxHeartbeats 4000000 in
theorem vp1_any (kn : ByteArray) (kb : Bool) (so : Option Addr) (sn sc : Nat) (g : Nat) (pk : ByteArray) (W : World) (h1 : W.cell? ⟨g, 1, none⟩ = some (.string pk)) :
    Calls Try.prog 45 #[.agg #[.string kn, .bool kb, .slice so sn sc], .pointer (some ⟨g, 0, none⟩)] W fun e w' => e = .returned (.bool (decide (kn = pk))) ∧ Below W.heap.size W w' := by
  rw [← Con.eq_list]
  have l1 := lt_of_cell h1
  have HB : Hid (∀ o, Below W.heap.size W (W.alloc o)) := Lib.hid (fun o => (Below.refl _ _).alloc (Nat.le_refl _) _)
  go_enter Try.func45, Try.ntmps45
  go_wp2_with fail
  go_ret
  exact ⟨rfl, HB.out _⟩
set_option maxRecDepth 100000 in
set_option maxHeartbeats 4000000 in
theorem index_any (co : Option Addr) (c : List Knd) (cc : Nat) (g : Nat) (pk : ByteArray) (hl : c.length ≤ 9223372036854775807) (W : World) (hi : IsL 3 ElKnd W co c) (h1 : W.cell? ⟨g, 1, none⟩ = some (.string pk)) :
    Calls Try.prog 53 #[.slice co c.length cc, .func (.func 45) #[] #[.pointer (some ⟨g, 0, none⟩)]] W fun e w' => ∃ z : Int, e = .returned (.int .i64 z) ∧ decide (0 ≤ z) = (c.any fun k => decide (k.name = pk)) ∧ Below W.heap.size W w' := by
  have HI := Lib.hid hi
  have l1 := lt_of_cell h1
  have HC := Lib.hid (fun (kn : ByteArray) (kb : Bool) (so : Option Addr) (sn sc : Nat) (w : World) (hw : Below W.heap.size W w) => vp1_any kn kb so sn sc g pk w ((cellB hw l1).trans h1))
  clear hi h1 l1
  obtain ⟨n, Hn⟩ : ∃ n, Hid (n = c.length) := ⟨_, Lib.hid rfl⟩
  rw [← Hn.out]
  rw [← Hn.out] at hl
  go_enter Try.func53, Try.ntmps53
  go_wp2_with fail
  go_loopw [8] (fun i wr => ∃ k : Nat, k ≤ n ∧ i = .int .i64 k ∧ Hid (Below W.heap.size W wr ∧ (c.take k).any (fun k => decide (k.name = pk)) = false)) (fun i _ => n - (intOf i).toNat)
  case atStart => exact ⟨0, Nat.zero_le _, by go_num, Lib.hid ⟨Below.refl _ _, rfl⟩⟩
  case round =>
    obtain ⟨k, hk, rfl, HR⟩ := hrel
    by_cases hkn : k < n
    · have hd : decide ((k : Int) < n) = true := decide_eq_true (by omega)
      have hb0 : (0 : Int) ≤ k := by omega
      have hb1 : (k : Int) < n := by omega
      have hkl : k < c.length := by rw [← Hn.out]; exact hkn
      obtain ⟨bk, off, cs, rfl, hbk, hrg, so, sc, rfl, hss, hs9⟩ := HI.out.at hkl
      obtain ⟨p, Hp⟩ : ∃ m, Hid (m = c[k]) := ⟨_, Lib.hid rfl⟩
      rw [← Hp.out] at hrg
      have hrg := rangeB hrg hbk HR.out.1
      have c0 := hrg 0 _ rfl
      have c1 := hrg 1 _ rfl
      have c2 := hrg 2 _ rfl
      rw [Nat.add_zero] at c0
      have HC1 := Lib.hid (HC.out p.name p.vehicle so p.slots.length sc wr HR.out.1)
      obtain ⟨b, Hb⟩ : ∃ b, Hid (b = decide (p.name = pk)) := ⟨_, Lib.hid rfl⟩
      rw [← Hb.out] at HC1
      clear hrg hss hs9 hbk
      go_wp2_with fail
      refine HC1.out.mono ?_
      rintro e w' ⟨rfl, hw⟩
      have HW := Lib.hid (below_step HR.out.1 hw)
      clear hw
      cases b with
      | true =>
        have HA := Lib.hid (Con.some_here (q := fun k : Knd => decide (k.name = pk)) hkl (by rw [← Hp.out]; exact Hb.out.symm))
        go_wp2_with fail
        go_ret
        exact ⟨_, rfl, by rw [HA.out]; exact decide_eq_true (by omega), HW.out⟩
      | false =>
        have HA := Lib.hid (Con.some_next (q := fun k : Knd => decide (k.name = pk)) hkl HR.out.2 (by rw [← Hp.out]; exact Hb.out.symm))
        go_wp2_with fail
        go_round
        case rel => exact ⟨k + 1, by omega, by go_num, Lib.hid ⟨HW.out, HA.out⟩⟩
        case measure => simp [intOf]; omega
    · obtain rfl : k = n := by omega
      have hd : decide ((k : Int) < k) = false := decide_eq_false (by omega)
      have HA := Lib.hid (Con.some_end (l := c) (q := fun k : Knd => decide (k.name = pk)) (by have := HR.out.2; rwa [Hn.out] at this))
      go_wp2_with fail
      go_ret
      exact ⟨_, rfl, by rw [HA.out]; rfl, HR.out.1⟩
set_option maxRecDepth 100000 in
set_option maxHeartbeats 4000000 in
theorem containsK_any (co : Option Addr) (c : List Knd) (cc : Nat) (g : Nat) (pk : ByteArray) (hl : c.length ≤ 9223372036854775807) (W : World) (hi : IsL 3 ElKnd W co c) (h1 : W.cell? ⟨g, 1, none⟩ = some (.string pk)) :
    Calls Try.prog 44 #[.slice co c.length cc, .func (.func 45) #[] #[.pointer (some ⟨g, 0, none⟩)]] W fun e w' => e = .returned (.bool (c.any fun k => decide (k.name = pk))) ∧ Below W.heap.size W w' := by
  have HC := Lib.hid (index_any co c cc g pk hl W hi h1)
  obtain ⟨n, Hn⟩ : ∃ n, Hid (n = c.length) := ⟨_, Lib.hid rfl⟩
  rw [← Hn.out] at HC ⊢
  obtain ⟨u, Hu⟩ : ∃ u, Hid (u = (c.any fun k => decide (k.name = pk))) := ⟨_, Lib.hid rfl⟩
  rw [← Hu.out] at HC ⊢
  clear hi h1
  go_enter Try.func44, Try.ntmps44
  go_wp2_with fail
  refine HC.out.mono ?_
  rintro e w' ⟨z, rfl, hz, hw⟩
  have HW := Lib.hid hw
  clear hw
  go_wp2_with fail
  go_ret
  exact ⟨rfl, HW.out⟩
/-- A valid interval of a life. -/
def okIvl (a b : Int) : Bool := decide (0 ≤ a) && (decide (a ≤ b) && decide (b ≤ 1000000000000))
set_option maxRecDepth 100000 in
set_option maxHeartbeats 4000000 in
theorem vp2_any (a b : Int) (W : World) :
    Calls Try.prog 46 #[.agg #[.int .i64 a, .int .i64 b]] W fun e w' => e = .returned (.bool (okIvl a b)) ∧ Below W.heap.size W w' := by
  unfold okIvl
  have HB : Hid (∀ o, Below W.heap.size W (W.alloc o)) := Lib.hid (fun o => (Below.refl _ _).alloc (Nat.le_refl _) _)
  obtain ⟨b1, e1⟩ : ∃ x, decide (0 ≤ a) = x := ⟨_, rfl⟩
  obtain ⟨b2, e2⟩ : ∃ x, decide (a ≤ b) = x := ⟨_, rfl⟩
  obtain ⟨b3, e3⟩ : ∃ x, decide (b ≤ 1000000000000) = x := ⟨_, rfl⟩
  rw [e1, e2, e3]
  go_enter Try.func46, Try.ntmps46
  cases b1 <;> cases b2
  all_goals
    go_wp2_with fail
    go_ret
    exact ⟨rfl, HB.out _⟩
end Go.Proofs.Ytapjnbofhdljfaa
