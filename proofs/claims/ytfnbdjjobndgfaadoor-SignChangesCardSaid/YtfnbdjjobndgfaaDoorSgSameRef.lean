/- The walk of the reference's comparison of lists. -/
import Derived.Test.YtfnbdjjobndgfaaDoorSgJoinedRef
import Derived.Test.YtfnbdjjobndgfaaDoorJoinInj
namespace Go.Proofs.YtfnbdjjobndgfaaDoor
open Go.RowKit

def sameB (ss tt : List ByteArray) : Bool := decide (bytesOf ss = bytesOf tt)
theorem bytesOf_inj {ss tt : List ByteArray} (h : bytesOf ss = bytesOf tt) : ss = tt := by
  unfold bytesOf at h
  exact List.map_inj_right (fun a b hab => by cases a; cases b; simpa using hab) |>.1 h
theorem sameB_true {ss tt : List ByteArray} (h : ss = tt) : sameB ss tt = true := by subst h; exact decide_eq_true rfl
theorem sameB_false {ss tt : List ByteArray} (h : ss ≠ tt) : sameB ss tt = false := decide_eq_false fun e => h (bytesOf_inj e)

set_option maxHeartbeats 4000000 in
theorem refSame_any (ao bo : Option Addr) (ss tt : List ByteArray) (c1 c2 : Nat) (w : World) (h1 : IsStrs w ao ss) (h2 : IsStrs w bo tt) (hn1 : ss.length ≤ 140737488351232) (_ : tt.length ≤ 140737488351232) :
    Calls Tryd.prog 21 #[.slice ao ss.length c1, .slice bo tt.length c2] w fun e w' => e = .returned (.bool (sameB ss tt)) ∧ Below w.heap.size w w' := by
  obtain ⟨n, Hn⟩ : ∃ n, Hid (n = ss.length) := ⟨_, Lib.hid rfl⟩
  obtain ⟨m, Hm⟩ : ∃ n, Hid (n = tt.length) := ⟨_, Lib.hid rfl⟩
  have H1 := Lib.hid h1
  have H2 := Lib.hid h2
  clear h1 h2
  rw [← Hn.out] at hn1 ⊢
  rw [← Hm.out]
  by_cases hne : (n : Int) = m
  · have hnm : n = m := by omega
    have hle : ¬ n < m := by omega
    have Hnm := Lib.hid hnm
    have hbne : ((n : Int) != m) = false := by simp [hnm]
    clear hne hnm
    go_enter Tryd.func21, Tryd.ntmps21
    go_wp2
    go_loopw [5] (fun i wr => ∃ k : Nat, k ≤ n ∧ i = .int .i64 k ∧ Hid (∀ j, (h1 : j < ss.length) → (h2 : j < tt.length) → j < k → ss[j] = tt[j]) ∧ Below w.heap.size w wr) (fun i _ => n - (intOf i).toNat)
    case atStart => exact ⟨0, Nat.zero_le _, rfl, Lib.hid fun j _ _ h => absurd h (Nat.not_lt_zero _), Below.refl _ _⟩
    case round =>
      obtain ⟨k, hk, rfl, Hall, hb⟩ := hrel
      by_cases hlt : k < n
      · have hks : k < ss.length := by rw [← Hn.out]; exact hlt
        have hkt : k < tt.length := by rw [← Hm.out, ← Hnm.out]; exact hlt
        have hkm : k < m := by rw [Hm.out]; exact hkt
        rcases H1.out with he | ⟨b1, o1, rfl, hb1, hc1⟩
        · subst he; exact absurd hks (by simp)
        rcases H2.out with he | ⟨b2, o2, rfl, hb2, hc2⟩
        · subst he; exact absurd hkt (by simp)
        obtain ⟨s, Hs⟩ : ∃ s, Hid (s = ss[k]'hks) := ⟨_, Lib.hid rfl⟩
        obtain ⟨t, Ht⟩ : ∃ s, Hid (s = tt[k]'hkt) := ⟨_, Lib.hid rfl⟩
        have hck : wr.cell? ⟨b1, o1 + k, none⟩ = some (.string s) := by rw [hb.cell (p := ⟨b1, o1 + k, none⟩) hb1, hc1 k hks, Hs.out]
        have hdk : wr.cell? ⟨b2, o2 + k, none⟩ = some (.string t) := by rw [hb.cell (p := ⟨b2, o2 + k, none⟩) hb2, hc2 k hkt, Ht.out]
        clear hc1 hc2
        by_cases hst : s = t
        · have hq : (s.toList == t.toList) = true := by rw [hst]; simp
          have Hst := Lib.hid hst
          clear hst
          go_wp2
          go_quiet (fail)
          go_wp2
          have Hall2 : Hid (∀ j, (h1 : j < ss.length) → (h2 : j < tt.length) → j < k + 1 → ss[j] = tt[j]) := by
            refine Lib.hid fun j h1 h2 h3 => ?_
            by_cases e : j = k
            · subst e; rw [← Hs.out, ← Ht.out]; exact Hst.out
            · exact Hall.out j h1 h2 (by omega)
          exact ⟨⟨k + 1, by omega, by go_num, Hall2, below_drewN hb _⟩, by simp [intOf]; omega⟩
        · have hq : (s.toList == t.toList) = false := (Lib.bytes_beq_false_iff _ _).2 hst
          have Hbad : Hid (sameB ss tt = false) := Lib.hid (sameB_false fun e => hst (by rw [Hs.out, Ht.out]; simp [e]))
          clear hst
          go_wp2
          go_quiet (fail)
          go_wp2
          go_ret
          exact ⟨ret_bool Hbad.out.symm, below_drewN hb _⟩
      · have Hend : Hid (sameB ss tt = true) := Lib.hid (sameB_true (List.ext_getElem (by rw [← Hn.out, ← Hm.out, Hnm.out]) fun j h1 h2 => Hall.out j h1 h2 (by have := Hn.out; omega)))
        go_wp2
        go_ret
        exact ⟨ret_bool Hend.out.symm, hb⟩
  · have Hbad : Hid (sameB ss tt = false) := Lib.hid (sameB_false fun e => hne (by rw [Hn.out, Hm.out, e]))
    have hbne : ((n : Int) != m) = true := by simp [hne]
    clear hne
    go_enter Tryd.func21, Tryd.ntmps21
    go_wp2
    go_ret
    exact ⟨ret_bool Hbad.out.symm, Below.refl _ _⟩

end Go.Proofs.YtfnbdjjobndgfaaDoor
