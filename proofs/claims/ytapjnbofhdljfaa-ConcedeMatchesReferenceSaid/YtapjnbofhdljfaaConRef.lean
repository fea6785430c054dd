/- The reference's Exempt, holds, At, Find. -/
import Derived.Test.YtapjnbofhdljfaaConHead
namespace Go.Proofs.Ytapjnbofhdljfaa
open Go.RowKit
open Cat

set_option maxRecDepth 100000 in
set_option maxHeartbeats 4000000 in
theorem refEx_any (part rule : ByteArray) (day : Int) (ao : Option Addr) (l : List Cn) (cap : Nat) (hl : l.length ≤ 9223372036854775807) (W : World) (hi : IsL 3 ElCon W ao l) :
    Calls Try.prog 13 #[.slice ao l.length cap, .string part, .string rule, .int .i64 day] W fun e w' => e = .returned (.bool (Con.exempt l part rule day)) ∧ W = w' := by
  have HI := Lib.hid hi
  clear hi
  obtain ⟨n, Hn⟩ : ∃ n, Hid (n = l.length) := ⟨_, Lib.hid rfl⟩
  rw [← Hn.out]
  rw [← Hn.out] at hl
  unfold Con.exempt
  obtain ⟨u, Hu⟩ : ∃ u, Hid (u = l.any (Con.exc part rule day)) := ⟨_, Lib.hid rfl⟩
  rw [← Hu.out]
  go_enter Try.func13, Try.ntmps13
  go_wp2_with fail
  go_loopw [9] (fun i wr => ∃ k : Nat, k ≤ n ∧ i = .int .i64 k ∧ wr = W ∧ Hid ((l.take k).any (Con.exc part rule day) = false)) (fun i _ => n - (intOf i).toNat)
  case atStart => exact ⟨0, Nat.zero_le _, by go_num, rfl, Lib.hid rfl⟩
  case round =>
    obtain ⟨k, hk, rfl, hw, HR⟩ := hrel
    subst hw
    by_cases hkn : k < n
    · have hd : decide ((k : Int) < n) = true := decide_eq_true (by omega)
      have hb0 : (0 : Int) ≤ k := by omega
      have hb1 : (k : Int) < n := by omega
      have hkl : k < l.length := by rw [← Hn.out]; exact hkn
      obtain ⟨bk, off, cs, rfl, hbk, hrg, hel⟩ := HI.out.at hkl
      obtain ⟨x, Hx⟩ : ∃ m, Hid (m = l[k]) := ⟨_, Lib.hid rfl⟩
      rw [← Hx.out] at hel
      unfold ElCon at hel
      subst hel
      obtain ⟨xp, xr, xto⟩ := x
      have c0 := hrg 0 _ rfl
      have c1 := hrg 1 _ rfl
      have c2 := hrg 2 _ rfl
      rw [Nat.add_zero] at c0
      dsimp only at c0 c1 c2
      obtain ⟨p1, e1⟩ : ∃ b, (xp.toList == part.toList) = b := ⟨_, rfl⟩
      obtain ⟨p2, e2⟩ : ∃ b, (xr.toList == rule.toList) = b := ⟨_, rfl⟩
      obtain ⟨p3, e3⟩ : ∃ b, decide (day ≤ xto) = b := ⟨_, rfl⟩
      have HE : Hid (Con.exc part rule day l[k] = (p1 && (p2 && p3))) := Lib.hid (by rw [← Hx.out]; unfold Con.exc; rw [← Con.eq_list, ← Con.eq_list, e1, e2, e3])
      clear hrg
      by_cases hq : (p1 && (p2 && p3)) = true
      · have HA : Hid (u = true) := Lib.hid (by rw [Hu.out]; exact Con.some_here hkl (by rw [HE.out]; exact hq))
        obtain ⟨rfl, rfl, rfl⟩ : p1 = true ∧ p2 = true ∧ p3 = true := by simpa using hq
        clear hq
        go_wp2_with fail
        go_ret
        obtain rfl := HA.out
        exact ⟨rfl, rfl⟩
      · have hq2 : (p1 && (p2 && p3)) = false := by simpa using hq
        have HN := Lib.hid (Con.some_next hkl HR.out (by rw [HE.out]; exact hq2))
        clear hq
        cases p1
        · clear hq2
          go_wp2_with fail
          go_round
          case rel => exact ⟨k + 1, by omega, by go_num, trivial, HN⟩
          case measure => simp [intOf]; omega
        cases p2
        · clear hq2
          go_wp2_with fail
          go_round
          case rel => exact ⟨k + 1, by omega, by go_num, trivial, HN⟩
          case measure => simp [intOf]; omega
        obtain rfl : p3 = false := by simpa using hq2
        clear hq2
        go_wp2_with fail
        go_round
        case rel => exact ⟨k + 1, by omega, by go_num, trivial, HN⟩
        case measure => simp [intOf]; omega
    · obtain rfl : k = n := by omega
      have hd : decide ((k : Int) < k) = false := decide_eq_false (by omega)
      have HA : Hid (u = false) := Lib.hid (by rw [Hu.out]; exact Con.some_end (by have := HR.out; rwa [Hn.out] at this))
      go_wp2_with fail
      go_ret
      obtain rfl := HA.out
      exact ⟨rfl, rfl⟩
/-- A part out of a list in memory: where its cells lie. -/
theorem part_cells {W : World} {so : Option Addr} {s : List Prt} (h : IsL 14 ElPrt W so s) {k : Nat} (hk : k < s.length) : ∃ bk off, so = some ⟨bk, off, none⟩ ∧ W.cell? ⟨bk, off + k * 14, none⟩ = some (.string s[k].name) ∧ W.cell? ⟨bk, off + k * 14 + 1, none⟩ = some (.string s[k].kind) ∧ W.cell? ⟨bk, off + k * 14 + 2, none⟩ = some (.string s[k].into) ∧ W.cell? ⟨bk, off + k * 14 + 3, none⟩ = some (.string s[k].slot) := by
  obtain ⟨bk, off, cs, e, _, hrg, po, pc, rfl, _, _⟩ := h.at hk
  exact ⟨bk, off, e, hrg 0 _ rfl, hrg 1 _ rfl, hrg 2 _ rfl, hrg 3 _ rfl⟩
set_option maxRecDepth 100000 in
set_option maxHeartbeats 4000000 in
theorem refHolds_any (so : Option Addr) (s : List Prt) (sc : Nat) (host slot kind : ByteArray) (hl : s.length ≤ 9223372036854775807) (W : World) (hi : IsL 14 ElPrt W so s) :
    Calls Try.prog 29 #[.agg #[.slice so s.length sc], .string host, .string slot, .string kind] W fun e w' => e = .returned (.bool (s.any (Con.twin host ⟨kind, kind, kind, slot, 0⟩))) ∧ Below W.heap.size W w' := by
  obtain ⟨n, Hn⟩ : ∃ n, Hid (n = s.length) := ⟨_, Lib.hid rfl⟩
  rw [← Hn.out]
  rw [← Hn.out] at hl
  obtain ⟨N, HN⟩ : ∃ N, Hid (N = W.heap.size) := ⟨_, Lib.hid rfl⟩
  obtain ⟨V, HV⟩ : ∃ w, Hid (w = W.alloc (.cells #[.slice so n sc] 28)) := ⟨_, Lib.hid rfl⟩
  have HB : Hid (Below W.heap.size W V) := Lib.hid (by rw [HV.out]; exact (Below.refl _ _).alloc (Nat.le_refl _) _)
  have v0 : V.cell? ⟨N, 0, none⟩ = some (.slice so n sc) := (by rw [HV.out]; exact Whole.newAt _ _ HN.out : Whole V N 28 #[.slice so n sc]).cell 0
  have HI := Lib.hid (hi.below stPrt HB.out)
  clear hi
  obtain ⟨u, Hu⟩ : ∃ u, Hid (u = s.any (Con.twin host ⟨kind, kind, kind, slot, 0⟩)) := ⟨_, Lib.hid rfl⟩
  rw [← Hu.out]
  go_enter Try.func29, Try.ntmps29
  go_wp2_with fail
  rw [← HN.out, ← HV.out]
  go_loopw [9] (fun i wr => ∃ k : Nat, k ≤ n ∧ i = .int .i64 k ∧ wr = V ∧ Hid ((s.take k).any (Con.twin host ⟨kind, kind, kind, slot, 0⟩) = false)) (fun i _ => n - (intOf i).toNat)
  case atStart => exact ⟨0, Nat.zero_le _, by go_num, rfl, Lib.hid rfl⟩
  case round =>
    obtain ⟨k, hk, rfl, hw, HR⟩ := hrel
    subst hw
    by_cases hkn : k < n
    · have hd : decide ((k : Int) < n) = true := decide_eq_true (by omega)
      have hb0 : (0 : Int) ≤ k := by omega
      have hb1 : (k : Int) < n := by omega
      have hkl : k < s.length := by rw [← Hn.out]; exact hkn
      obtain ⟨bk, off, rfl, -, c1, c2, c3⟩ := part_cells HI.out hkl
      obtain ⟨x1, Hx1⟩ : ∃ m, Hid (m = s[k].kind) := ⟨_, Lib.hid rfl⟩
      obtain ⟨x2, Hx2⟩ : ∃ m, Hid (m = s[k].into) := ⟨_, Lib.hid rfl⟩
      obtain ⟨x3, Hx3⟩ : ∃ m, Hid (m = s[k].slot) := ⟨_, Lib.hid rfl⟩
      rw [← Hx1.out] at c1
      rw [← Hx2.out] at c2
      rw [← Hx3.out] at c3
      obtain ⟨p1, e1⟩ : ∃ b, (x2.toList == host.toList) = b := ⟨_, rfl⟩
      obtain ⟨p2, e2⟩ : ∃ b, (x3.toList == slot.toList) = b := ⟨_, rfl⟩
      obtain ⟨p3, e3⟩ : ∃ b, (x1.toList == kind.toList) = b := ⟨_, rfl⟩
      have HE : Hid (Con.twin host ⟨kind, kind, kind, slot, 0⟩ s[k] = (p1 && (p2 && p3))) := Lib.hid (by unfold Con.twin; rw [← Con.eq_list, ← Con.eq_list, ← Con.eq_list, ← Hx1.out, ← Hx2.out, ← Hx3.out, e1, e2, e3])
      by_cases hq : (p1 && (p2 && p3)) = true
      · have HA : Hid (u = true) := Lib.hid (by rw [Hu.out]; exact Con.some_here hkl (by rw [HE.out]; exact hq))
        obtain ⟨rfl, rfl, rfl⟩ : p1 = true ∧ p2 = true ∧ p3 = true := by simpa using hq
        clear hq
        go_wp2_with fail
        go_ret
        obtain rfl := HA.out
        exact ⟨rfl, HB.out⟩
      · have hq2 : (p1 && (p2 && p3)) = false := by simpa using hq
        have HN := Lib.hid (Con.some_next hkl HR.out (by rw [HE.out]; exact hq2))
        clear hq
        cases p1
        · clear hq2
          go_wp2_with fail
          go_round
          case rel => exact ⟨k + 1, by omega, by go_num, trivial, HN⟩
          case measure => simp [intOf]; omega
        cases p2
        · clear hq2
          go_wp2_with fail
          go_round
          case rel => exact ⟨k + 1, by omega, by go_num, trivial, HN⟩
          case measure => simp [intOf]; omega
        obtain rfl : p3 = false := by simpa using hq2
        clear hq2
        go_wp2_with fail
        go_round
        case rel => exact ⟨k + 1, by omega, by go_num, trivial, HN⟩
        case measure => simp [intOf]; omega
    · obtain rfl : k = n := by omega
      have hd : decide ((k : Int) < k) = false := decide_eq_false (by omega)
      have HA : Hid (u = false) := Lib.hid (by rw [Hu.out]; exact Con.some_end (by have := HR.out; rwa [Hn.out] at this))
      go_wp2_with fail
      go_ret
      obtain rfl := HA.out
      exact ⟨rfl, HB.out⟩
end Go.Proofs.Ytapjnbofhdljfaa
