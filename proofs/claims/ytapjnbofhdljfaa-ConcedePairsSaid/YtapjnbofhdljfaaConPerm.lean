/- some over substitutions; Permitted. -/
import Derived.Test.YtapjnbofhdljfaaConSome
namespace Go.Proofs.Ytapjnbofhdljfaa
open Go.RowKit
open Cat

theorem fit_size : (Try.prog.info? 62).map (·.size) = some 29 := by kernel_rfl
set_option maxRecDepth 100000 in
set_option maxHeartbeats 4000000 in
theorem pm1_any (p h : Prt) (po ho : Option Addr) (pn pc hn hc : Nat) (so : Option Addr) (s : List Prt) (sc : Nat) (x : Sb) (day : Int) (g1 g2 : Nat) (hl : s.length ≤ 9223372036854775807) (W : World) (hi : IsL 14 ElPrt W so s) (h1 : W.rangeAt g1 0 (fitC p h (.slice po pn pc) (.slice ho hn hc) so s.length sc)) (h2 : W.cell? ⟨g2, 0, none⟩ = some (.int .i64 day)) :
    Calls Try.prog 25 #[.agg (subC x).toArray, .pointer (some ⟨g1, 0, none⟩), .pointer (some ⟨g2, 0, none⟩)] W fun e w' => e = .returned (.bool (Con.permits s h p day x)) ∧ Below W.heap.size W w' := by
  have l1 : g1 < W.heap.size := lt_of_cell (h1 0 _ rfl)
  have l2 := lt_of_cell h2
  obtain ⟨V, HV⟩ : ∃ w, Hid (w = W.alloc (.cells (subC x).toArray 51)) := ⟨_, Lib.hid rfl⟩
  have HB : Hid (Below W.heap.size W V) := Lib.hid (by rw [HV.out]; exact (Below.refl _ _).alloc (Nat.le_refl _) _)
  obtain ⟨N, HN⟩ : ∃ N, Hid (N = W.heap.size) := ⟨_, Lib.hid rfl⟩
  have HX : Hid (Whole V N 51 (subC x).toArray) := Lib.hid (by rw [HV.out, HN.out]; exact Whole.new _ _ _)
  have HP := Lib.hid (permits_any p h po ho pn pc hn hc so s sc x day hl V (hi.below stPrt HB.out))
  have HR := Lib.hid (rangeB h1 l1 HB.out)
  have d2 := (cellB HB.out l2).trans h2
  obtain ⟨u, Hu⟩ : ∃ u, Hid (u = Con.permits s h p day x) := ⟨_, Lib.hid rfl⟩
  rw [← Hu.out] at HP ⊢
  have HSz := Lib.hid fit_size
  clear hi h1 h2
  go_enter Try.func25, Try.ntmps25
  go_wp2_with (first
    | (with_reducible show wpList _ _ _ (Oper.mk _ (Op.load 62 _) _ _ _ _ :: _) _ _; refine Hid.out ?_))
  refine Lib.hid ?_
  rw [← HN.out, ← HV.out]
  have hss : (Try.prog.info? 51).map (·.size) = some (subC x).length := by kernel_rfl
  have HSs := Lib.hid hss
  clear hss
  refine wpList_load_mid rfl _ _ rfl g1 0 rfl _ _ HR.out Try.underlying62 rfl (HSz.out.trans rfl) ?_
  go_wp2_with (first
    | (with_reducible show wpList _ _ _ (Oper.mk _ (Op.load 51 _) _ _ _ _ :: _) _ _; refine wpList_load_mid rfl _ _ rfl N 0 rfl _ _ HX.out.range Try.underlying51 rfl HSs.out ?_))
  refine HP.out.mono ?_
  rintro e w' ⟨rfl, hw⟩
  have HW := Lib.hid (below_step HB.out hw)
  clear hw
  go_wp2_with fail
  go_ret
  exact ⟨rfl, HW.out⟩

set_option maxRecDepth 100000 in
set_option maxHeartbeats 4000000 in
theorem someS_any (p h : Prt) (po ho : Option Addr) (pn pc hn hc : Nat) (so : Option Addr) (s : List Prt) (sc : Nat) (day : Int) (g1 g2 : Nat) (hls : s.length ≤ 9223372036854775807) (ao : Option Addr) (l : List Sb) (cap : Nat) (hl : l.length ≤ 9223372036854775807) (W : World) (his : IsL 14 ElPrt W so s) (hi : IsL 5 ElSub W ao l) (h1 : W.rangeAt g1 0 (fitC p h (.slice po pn pc) (.slice ho hn hc) so s.length sc)) (h2 : W.cell? ⟨g2, 0, none⟩ = some (.int .i64 day)) :
    Calls Try.prog 24 #[.slice ao l.length cap, .func (.func 25) #[] #[.pointer (some ⟨g1, 0, none⟩), .pointer (some ⟨g2, 0, none⟩)]] W fun e w' => e = .returned (.bool (l.any (Con.permits s h p day))) ∧ Below W.heap.size W w' := by
  have l1 : g1 < W.heap.size := lt_of_cell (h1 0 _ rfl)
  have l2 := lt_of_cell h2
  have HC := Lib.hid (fun (x : Sb) (w : World) (hw : Below W.heap.size W w) => pm1_any p h po ho pn pc hn hc so s sc x day g1 g2 hls w (his.below stPrt hw) (rangeB h1 l1 hw) ((cellB hw l2).trans h2))
  have HM := Lib.hid hi
  clear hi h1 h2 l1 l2 his
  obtain ⟨u, Hu⟩ : ∃ u, Hid (u = l.any (Con.permits s h p day)) := ⟨_, Lib.hid rfl⟩
  rw [← Hu.out]
  obtain ⟨n, Hn⟩ : ∃ n, Hid (n = l.length) := ⟨_, Lib.hid rfl⟩
  rw [← Hn.out]
  rw [← Hn.out] at hl
  go_enter Try.func24, Try.ntmps24
  go_wp2_with fail
  go_loopw [9] (fun i wr => ∃ k : Nat, k ≤ n ∧ i = .int .i64 k ∧ Hid (Below W.heap.size W wr ∧ (l.take k).any (Con.permits s h p day) = false)) (fun i _ => n - (intOf i).toNat)
  case atStart => exact ⟨0, Nat.zero_le _, by go_num, Lib.hid ⟨Below.refl _ _, rfl⟩⟩
  case round =>
    obtain ⟨k, hk, rfl, HR⟩ := hrel
    by_cases hkn : k < n
    · have hd : decide ((k : Int) < n) = true := decide_eq_true (by omega)
      have hb0 : (0 : Int) ≤ k := by omega
      have hb1 : (k : Int) < n := by omega
      have hkl : k < l.length := by rw [← Hn.out]; exact hkn
      obtain ⟨bk, off, cs, rfl, hbk, hrg, hel⟩ := HM.out.at hkl
      obtain ⟨x, Hx⟩ : ∃ m, Hid (m = l[k]) := ⟨_, Lib.hid rfl⟩
      rw [← Hx.out] at hel
      unfold ElSub at hel
      subst hel
      have hrg := rangeB hrg hbk HR.out.1
      have c0 := hrg 0 _ rfl
      have c1 := hrg 1 _ rfl
      have c2 := hrg 2 _ rfl
      have c3 := hrg 3 _ rfl
      have c4 := hrg 4 _ rfl
      rw [Nat.add_zero] at c0
      obtain ⟨V, HV⟩ : ∃ w, Hid (w = wr.alloc (.cells #[.string x.kind, .string x.slot, .string x.other, .string x.twin, .int .i64 x.to] 51)) := ⟨_, Lib.hid rfl⟩
      have HBV : Hid (Below W.heap.size W V) := Lib.hid (by rw [HV.out]; exact below_alloc HR.out.1 _)
      have hC := Lib.hid (HC.out x V HBV.out)
      obtain ⟨b, Hb⟩ : ∃ u, Hid (u = Con.permits s h p day x) := ⟨_, Lib.hid rfl⟩
      rw [← Hb.out] at hC
      unfold subC at hC
      obtain ⟨xk, xs, xo, xt, xto⟩ := x
      dsimp only at hC c0 c1 c2 c3 c4 HV
      clear hrg
      cases b with
      | true =>
        have HA : Hid (u = true) := Lib.hid (by rw [Hu.out]; exact Con.some_here hkl (by rw [← Hx.out]; exact Hb.out.symm))
        go_wp2_with fail
        rw [← HV.out]
        refine hC.out.mono ?_
        rintro e w' ⟨rfl, hw⟩
        have HW := Lib.hid (below_step HBV.out hw)
        clear hw
        go_wp2_with fail
        go_ret
        obtain rfl := HA.out
        exact ⟨rfl, HW.out⟩
      | false =>
        have HN := Lib.hid (Con.some_next hkl HR.out.2 (by rw [← Hx.out]; exact Hb.out.symm))
        go_wp2_with fail
        rw [← HV.out]
        refine hC.out.mono ?_
        rintro e w' ⟨rfl, hw⟩
        have HW := Lib.hid (below_step HBV.out hw)
        clear hw
        go_wp2_with fail
        go_round
        case rel => exact ⟨k + 1, by omega, by go_num, Lib.hid ⟨HW.out, HN.out⟩⟩
        case measure => simp [intOf]; omega
    · obtain rfl : k = n := by omega
      have hd : decide ((k : Int) < k) = false := decide_eq_false (by omega)
      have HA : Hid (u = false) := Lib.hid (by rw [Hu.out]; exact Con.some_end (by have := HR.out.2; rwa [Hn.out] at this))
      go_wp2_with fail
      go_ret
      obtain rfl := HA.out
      exact ⟨rfl, HR.out.1⟩
end Go.Proofs.Ytapjnbofhdljfaa
