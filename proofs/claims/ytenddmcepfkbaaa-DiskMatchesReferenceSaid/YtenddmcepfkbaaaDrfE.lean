/- The walks of the reference's disk: Sync, Read. -/
import Derived.Test.YtenddmcepfkbaaaDrfD
namespace Go.Proofs.Ytenddmcepfkbaaa
open Go.RowKit
section
variable {n : Nat} {W W' : World} {b g gc : Nat} {pv : Value} {D : Dsk.Dk}

theorem rsync_off (h : IsRf n W b g gc pv D) (ho : D.off = true) : Calls Try.prog 34 #[.pointer (some ⟨b, 0, none⟩)] W fun e w' => e = .returned (.int .i64 18) ∧ W = w' := by
  have c2 := h.cells.2.2.1
  rw [ho] at c2
  simp only [Bool.not_true] at c2
  clear h ho
  go_enter Try.func34, Try.ntmps34
  go_wp2
  go_ret
  exact ⟨rfl, rfl⟩
theorem rsync_fails (h : IsRf n W b g gc pv D) (hs : Sane D) (ho : D.off = false) (hb : D.aft ≤ 9223372036854775807) (he : Dsk.surviveE D = 18) : Calls Try.prog 34 #[.pointer (some ⟨b, 0, none⟩)] W fun e w' => e = .returned (.int .i64 18) ∧ LeftR n W b g gc pv (Dsk.surviveD D) w' := by
  have c2 := h.cells.2.2.1
  rw [ho] at c2
  simp only [Bool.not_false] at c2
  have hv := rcount_any h hs hb
  rw [he] at hv
  have HV := Lib.hid hv
  clear h ho hb he hv hs
  go_enter Try.func34, Try.ntmps34
  go_wp2_with fail
  refine HV.out.mono ?_
  rintro e w1 ⟨rfl, hl⟩
  have HLf := Lib.hid hl
  clear hl
  go_wp2
  go_ret
  exact ⟨rfl, HLf.out⟩

set_option maxHeartbeats 1000000 in
theorem rsync_good (h : IsRf n W b g gc pv D) (hs : Sane D) (ho : D.off = false) (hb : D.aft ≤ 9223372036854775807) (he : Dsk.surviveE D = 0) : Calls Try.prog 34 #[.pointer (some ⟨b, 0, none⟩)] W fun e w' => e = .returned (.int .i64 0) ∧ LeftR n W b g gc pv { Dsk.surviveD D with st := Dsk.settle (Dsk.surviveD D).st (Dsk.surviveD D).pd, pd := [] } w' := by
  have c2 := h.cells.2.2.1
  rw [ho] at c2
  simp only [Bool.not_false] at c2
  have hv := rcount_any h hs hb
  rw [he] at hv
  have HV := Lib.hid hv
  obtain ⟨D1, HD1⟩ : ∃ D1, Hid (D1 = Dsk.surviveD D) := ⟨_, Lib.hid rfl⟩
  rw [← HD1.out] at HV ⊢
  clear h ho hb he hv hs
  go_enter Try.func34, Try.ntmps34
  go_wp2_with fail
  refine HV.out.mono ?_
  rintro e w1 ⟨rfl, hl⟩
  obtain ⟨pv1, o1, i1, q1⟩ := hl
  have HO1 := Lib.hid o1
  have HI1 := Lib.hid i1
  have HQ1 := Lib.hid q1
  have c1 := i1.cells.2.1
  obtain ⟨ao, cap, hpv, _⟩ := i1.slice
  have hset := rsettle_any i1 D1.pd.length (Nat.le_refl _)
  rw [hpv] at c1
  obtain ⟨L, HL⟩ : ∃ L, Hid (L = D1.pd.length) := ⟨_, Lib.hid rfl⟩
  rw [← HL.out] at c1 hset
  have HS := Lib.hid hset
  have hL : (L : Int) ≤ 1000000 := by have := i1.ok.few; have := HL.out; omega
  clear o1 i1 q1 hpv hset c2
  go_wp2_with fail
  refine HS.out.mono ?_
  rintro e w2 ⟨rfl, HR⟩
  have c1' := HR.out.2.cells.2.1
  have f1' := HR.out.2.frees 1
  have HLf : Hid (LeftR n W b g gc pv { D1 with st := Dsk.settle D1.st D1.pd, pd := [] } (w2.setCell ⟨b, 1, none⟩ (.slice none 0 0))) := Lib.hid (by
    have e : upTo D1 L = { D1 with st := Dsk.settle D1.st D1.pd } := by unfold upTo; rw [HL.out, List.take_length]
    have h2 := HR.out.2
    rw [e] at h2
    have h3 := h2.dropped
    refine LeftR.next HO1.out HQ1.out ⟨.slice none 0 0, only_store HR.out.1 1 _, h3, fun k hk => by simp [Value.ownBlock] at hk⟩)
  clear c1
  go_wp2
  go_ret
  exact ⟨rfl, HLf.out⟩

theorem rsync_any (h : IsRf n W b g gc pv D) (hs : Sane D) (hb : D.aft ≤ 9223372036854775807) : Calls Try.prog 34 #[.pointer (some ⟨b, 0, none⟩)] W fun e w' => e = .returned (.int .i64 (Dsk.syncE D)) ∧ LeftR n W b g gc pv (Dsk.syncD D) w' := by
  unfold Dsk.syncE Dsk.syncD
  cases ho : D.off
  · rcases surviveE_cases D with he | he
    · have := rsync_good h hs ho hb he
      simp only [Bool.false_eq_true, if_false, he, if_true]
      exact this
    · have := rsync_fails h hs ho hb he
      simp only [Bool.false_eq_true, if_false, he]
      exact this
  · exact (rsync_off h ho).mono fun e w' ⟨h1, h2⟩ => ⟨h1, h2 ▸ LeftR.same h (Below.refl _ _)⟩

theorem lastR_snoc (l : List (Nat × ByteArray)) (p : Nat × ByteArray) (s : Nat) : Dsk.lastP (l ++ [p]) s = if p.1 = s then some p.2 else Dsk.lastP l s := by
  unfold Dsk.lastP
  rw [List.reverse_append]
  simp only [List.reverse_cons, List.reverse_nil, List.nil_append, List.cons_append, List.find?_cons]
  by_cases e : p.1 = s
  · simp [e]
  · have e2 : (p.1 == s) = false := by simp [e]
    rw [e2, if_neg e]
/-- What a sector shows after some pending writes. -/
def shown (D : Dsk.Dk) (s k : Nat) : ByteArray := match Dsk.lastP (D.pd.take k) s with | some t => t | none => secS D.st s
theorem shown_zero (D : Dsk.Dk) (s : Nat) : shown D s 0 = secS D.st s := by
  unfold shown
  rw [List.take_zero]
  rfl
theorem shown_succ (D : Dsk.Dk) (s k : Nat) (h : k < D.pd.length) : shown D s (k + 1) = if D.pd[k].1 = s then D.pd[k].2 else shown D s k := by
  unfold shown
  rw [List.take_succ_eq_append_getElem h, lastR_snoc]
  by_cases e : D.pd[k].1 = s
  · rw [if_pos e, if_pos e]
  · rw [if_neg e, if_neg e]
theorem shown_all (D : Dsk.Dk) (s : Nat) : shown D s D.pd.length = Dsk.seen D s := by
  unfold shown Dsk.seen
  rw [List.take_length]
  rfl

theorem rread_off (h : IsRf n W b g gc pv D) (ho : D.off = true) (s : Int) : Calls Try.prog 19 #[.pointer (some ⟨b, 0, none⟩), .int .i64 s] W fun e w' => e = .returned (.tuple #[.string ⟨#[]⟩, .int .i64 18]) ∧ W = w' := by
  have c2 := h.cells.2.2.1
  rw [ho] at c2
  simp only [Bool.not_true] at c2
  clear h ho
  go_enter Try.func19, Try.ntmps19
  go_wp2
  go_ret2
  exact ⟨rfl, rfl⟩
theorem rread_bad (h : IsRf n W b g gc pv D) (ho : D.off = false) (s : Int) (hs : Dsk.has n s = false) : Calls Try.prog 19 #[.pointer (some ⟨b, 0, none⟩), .int .i64 s] W fun e w' => e = .returned (.tuple #[.string ⟨#[]⟩, .int .i64 1]) ∧ W = w' := by
  have c2 := h.cells.2.2.1
  have c0 := h.cells.1
  rw [ho] at c2
  simp only [Bool.not_false] at c2
  have hn := h.ok.n2
  have hc : s < 0 ∨ (¬ s < 0 ∧ (n : Int) ≤ s) := by
    have : ¬ (0 ≤ s ∧ s < n) := fun hh => by rw [Dsk.has_iff.2 hh] at hs; cases hs
    omega
  rcases hc with h1 | ⟨h1, h3⟩
  all_goals
    clear h ho hs
    go_enter Try.func19, Try.ntmps19
    go_wp2
    go_ret2
    exact ⟨rfl, rfl⟩

set_option maxHeartbeats 1000000 in
theorem rread_good (h : IsRf n W b g gc pv D) (ho : D.off = false) (s : Nat) (hs : s < n) : Calls Try.prog 19 #[.pointer (some ⟨b, 0, none⟩), .int .i64 s] W fun e w' => e = .returned (.tuple #[.string (Dsk.seen D s), .int .i64 0]) ∧ W = w' := by
  have c2 := h.cells.2.2.1
  have c0 := h.cells.1
  have c1 := h.cells.2.1
  have cz := h.stable.cell hs
  rw [ho] at c2
  simp only [Bool.not_false] at c2
  have hn := h.ok.n2
  have hs1 : ¬ (n : Int) ≤ s := by omega
  have hs2 : (s : Int) < n := by omega
  have H := Lib.hid h
  obtain ⟨ao, cap, hpv, hao⟩ := h.slice
  rw [hpv] at c1
  have HP := Lib.hid hpv
  have HA := Lib.hid hao
  obtain ⟨L, HL⟩ : ∃ L, Hid (L = D.pd.length) := ⟨_, Lib.hid rfl⟩
  rw [← HL.out] at c1
  have hL : (L : Int) ≤ 1000000 := by have := h.ok.few; have := HL.out; omega
  obtain ⟨X0, HX0⟩ : ∃ X, Hid (X = secS D.st s) := ⟨_, Lib.hid rfl⟩
  rw [← HX0.out] at cz
  clear h ho hpv hao hs
  go_enter Try.func19, Try.ntmps19
  go_wp2
  go_loop [6, 7] (fun o i => ∃ k : Nat, k ≤ L ∧ i = .int .i64 k ∧ ∃ X, o = .string X ∧ Hid (X = shown D s k)) (fun _ i => L - (intOf i).toNat)
  case atStart => exact ⟨0, by omega, rfl, X0, rfl, Lib.hid (by rw [shown_zero, HX0.out])⟩
  case round =>
    obtain ⟨k, hk, rfl, X, rfl, HX⟩ := hrel
    by_cases hlt : k < L
    · have hlt' : (k : Int) < L := by omega
      have hjL : k < D.pd.length := by have := HL.out; omega
      obtain ⟨g', rfl⟩ := HA.out k hjL
      have hp := H.out.pend HP.out k hjL
      obtain ⟨z, Hz⟩ : ∃ x, Hid (x = D.pd[k].1) := ⟨_, Lib.hid rfl⟩
      obtain ⟨t, Ht⟩ : ∃ x, Hid (x = D.pd[k].2) := ⟨_, Lib.hid rfl⟩
      rw [← Hz.out, ← Ht.out] at hp
      obtain ⟨p1, p2⟩ := hp
      by_cases he : z = s
      · have hd : ((z : Int) == (s : Int)) = true := by simp [he]
        have HN : Hid (t = shown D s (k + 1)) := Lib.hid (by rw [shown_succ D s k hjL, ← Hz.out, ← Ht.out, if_pos he])
        clear he
        go_wp2
        go_round
        case rel => exact ⟨k + 1, by omega, by go_num, t, rfl, HN⟩
        case measure => simp [intOf]; omega
      · have hd : ((z : Int) == (s : Int)) = false := by simp; omega
        have HN : Hid (X = shown D s (k + 1)) := Lib.hid (by rw [shown_succ D s k hjL, ← Hz.out, ← Ht.out, if_neg he]; exact HX.out)
        clear he
        go_wp2
        go_round
        case rel => exact ⟨k + 1, by omega, by go_num, X, rfl, HN⟩
        case measure => simp [intOf]; omega
    · have HE : Hid (X = Dsk.seen D s) := Lib.hid (by
        have : k = D.pd.length := by have := HL.out; omega
        rw [HX.out, this, shown_all])
      obtain rfl : L = k := by omega
      go_wp2
      go_ret2
      exact ⟨by rw [HE.out] <;> rfl, rfl⟩

theorem rread_any (h : IsRf n W b g gc pv D) (s : Int) : Calls Try.prog 19 #[.pointer (some ⟨b, 0, none⟩), .int .i64 s] W fun e w' => e = .returned (.tuple #[.string (Dsk.readV n D s), .int .i64 (Dsk.readE n D s)]) ∧ W = w' := by
  unfold Dsk.readV Dsk.readE
  cases ho : D.off
  · cases hs : Dsk.has n s
    · exact rread_bad h ho s hs
    · obtain ⟨h1, h2⟩ := Dsk.has_iff.1 hs
      obtain ⟨k, rfl⟩ : ∃ k : Nat, s = k := ⟨s.toNat, by omega⟩
      exact rread_good h ho k (by omega)
  · exact rread_off h ho s
end

end Go.Proofs.Ytenddmcepfkbaaa
