/- The walk: whether there are few tasks. -/
import Derived.Test.YtejgbfaampllaaaTskIs
namespace Go.Proofs.Ytejgbfaampllaaa
open Go.RowKit

set_option maxHeartbeats 1000000 in
theorem few_any (l : List Tk) (hf : ∀ t ∈ l, tkFine t) (hn : l.length ≤ 9223372036854775807) (ao : Option Addr) (cap : Nat) (W : World) (hl : IsTasks W ao l) :
    Calls Try.prog 10 #[.slice ao l.length cap] W fun e w' => e = .returned (.bool (Tsk.fewB l)) ∧ W = w' := by
  obtain ⟨n, Hn⟩ : ∃ n, Hid (n = l.length) := ⟨_, Lib.hid rfl⟩
  obtain ⟨r, Hr⟩ : ∃ r, Hid (r = Tsk.fewB l) := ⟨_, Lib.hid rfl⟩
  have HF := Lib.hid hf
  have HL := Lib.hid hl
  rw [← Hn.out] at hn ⊢
  rw [← Hr.out]
  clear hf hl
  by_cases h45 : (n : Int) ≤ 45
  · go_enter Try.func10, Try.ntmps10
    go_wp2
    go_loop [3] (fun i => ∃ k : Nat, k ≤ n ∧ i = .int .i64 k ∧ Hid (∀ j, (hj : j < l.length) → j < k → l[j].after.length ≤ 45)) (fun i => n - (intOf i).toNat)
    case atStart => exact ⟨0, by omega, rfl, Lib.hid fun j _ h => by omega⟩
    case round =>
      obtain ⟨k, hk, rfl, HA⟩ := hrel
      by_cases hlt : k < n
      · have hlt' : (k : Int) < n := by omega
        have hkl : k < l.length := by rw [← Hn.out]; exact hlt
        obtain ⟨bk, off, rfl, hbk, hact⟩ := HL.out.at hkl
        obtain ⟨t, Ht⟩ : ∃ t, Hid (t = l[k]) := ⟨_, Lib.hid rfl⟩
        have hfin : tkFine t := by rw [Ht.out]; exact HF.out _ (List.getElem_mem _)
        rw [← Ht.out] at hact
        obtain ⟨c1, c2, c3, ao2, cap2, c4, hin⟩ := hact
        obtain ⟨m, Hm⟩ : ∃ m, Hid (m = t.after.length) := ⟨_, Lib.hid rfl⟩
        rw [← Hm.out] at c4
        have hm : (m : Int) ≤ 9223372036854775807 := by have h0 := hfin.1; have := Hm.out; omega
        clear hin hfin c1 c2 c3
        by_cases hm45 : (45 : Int) < m
        · have HE : Hid (r = false) := Lib.hid (by
            rw [Hr.out]
            cases h : Tsk.fewB l
            · rfl
            · have h2 := (Tsk.fewB_iff.1 h).2 _ (List.getElem_mem hkl)
              have h3 := Hm.out
              rw [Ht.out] at h3
              omega)
          go_wp2
          go_ret
          exact ⟨ret_bool HE.out.symm, rfl⟩
        · have HE : Hid (l[k].after.length ≤ 45) := Lib.hid (by
            have h3 := Hm.out
            rw [Ht.out] at h3
            omega)
          go_wp2
          go_round
          case rel => exact ⟨k + 1, by omega, by go_num, Lib.hid fun q h1 h2 => by
            by_cases e : q = k
            · subst e; exact HE.out
            · exact HA.out q h1 (by omega)⟩
          case measure => simp [intOf]; omega
      · have HE : Hid (r = true) := Lib.hid (by
          rw [Hr.out]
          refine Tsk.fewB_iff.2 ⟨by have := Hn.out; omega, fun t ht => ?_⟩
          obtain ⟨j, hj, rfl⟩ := List.getElem_of_mem ht
          exact HA.out j hj (by have := Hn.out; omega))
        obtain rfl : n = k := by omega
        go_wp2
        go_ret
        exact ⟨ret_bool HE.out.symm, rfl⟩
  · have HE : Hid (r = false) := Lib.hid (by
      rw [Hr.out]
      cases h : Tsk.fewB l
      · rfl
      · have := (Tsk.fewB_iff.1 h).1
        have := Hn.out
        omega)
    have h46 : (45 : Int) < n := by omega
    go_enter Try.func10, Try.ntmps10
    go_wp2
    go_loop [3] (fun i => i = .int .i64 0) (fun _ => 0)
    case atStart => rfl
    case round =>
      obtain rfl := hrel
      have h0 : (0 : Int) < n := by omega
      go_wp2
      go_ret
      exact ⟨ret_bool (by rw [HE.out]; exact decide_eq_false (by omega)), rfl⟩

end Go.Proofs.Ytejgbfaampllaaa
