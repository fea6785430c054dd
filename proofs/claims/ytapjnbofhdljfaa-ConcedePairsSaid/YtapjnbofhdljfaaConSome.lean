/- some over parts; permits; some over substitutions. -/
import Derived.Test.YtapjnbofhdljfaaConPermits
namespace Go.Proofs.Ytapjnbofhdljfaa
open Go.RowKit
open Cat

set_option maxRecDepth 100000 in
set_option maxHeartbeats 4000000 in
theorem someP_any (host : ByteArray) (x : Sb) (g1 g2 : Nat) (ao : Option Addr) (l : List Prt) (cap : Nat) (hl : l.length ≤ 9223372036854775807) (W : World) (hi : IsL 14 ElPrt W ao l) (h1 : W.cell? ⟨g1, 14, none⟩ = some (.string host)) (h2 : W.cell? ⟨g2, 3, none⟩ = some (.string x.twin)) (h3 : W.cell? ⟨g2, 2, none⟩ = some (.string x.other)) :
    Calls Try.prog 37 #[.slice ao l.length cap, .func (.func 38) #[] #[.pointer (some ⟨g1, 0, none⟩), .pointer (some ⟨g2, 0, none⟩)]] W fun e w' => e = .returned (.bool (l.any (Con.twin host x))) ∧ Below W.heap.size W w' := by
  have l1 := lt_of_cell h1
  have l2 := lt_of_cell h2
  have HC := Lib.hid (fun (p : Prt) (pv : Value) (w : World) (hpv : ∃ po n pc, pv = .slice po n pc) (hw : Below W.heap.size W w) => perm1_any p pv host x g1 g2 w hpv ((cellB hw l1).trans h1) ((cellB hw l2).trans h2) ((cellB hw l2).trans h3))
  have HM := Lib.hid hi
  clear hi h1 h2 h3 l1 l2
  obtain ⟨u, Hu⟩ : ∃ u, Hid (u = l.any (Con.twin host x)) := ⟨_, Lib.hid rfl⟩
  rw [← Hu.out]
  obtain ⟨n, Hn⟩ : ∃ n, Hid (n = l.length) := ⟨_, Lib.hid rfl⟩
  rw [← Hn.out]
  rw [← Hn.out] at hl
  go_enter Try.func37, Try.ntmps37
  go_wp2_with fail
  go_loopw [9] (fun i wr => ∃ k : Nat, k ≤ n ∧ i = .int .i64 k ∧ Hid (Below W.heap.size W wr ∧ (l.take k).any (Con.twin host x) = false)) (fun i _ => n - (intOf i).toNat)
  case atStart => exact ⟨0, Nat.zero_le _, by go_num, Lib.hid ⟨Below.refl _ _, rfl⟩⟩
  case round =>
    obtain ⟨k, hk, rfl, HR⟩ := hrel
    by_cases hkn : k < n
    · have hd : decide ((k : Int) < n) = true := decide_eq_true (by omega)
      have hb0 : (0 : Int) ≤ k := by omega
      have hb1 : (k : Int) < n := by omega
      have hkl : k < l.length := by rw [← Hn.out]; exact hkn
      obtain ⟨bk, off, cs, rfl, hbk, hrg, po, pc, rfl, _, _⟩ := HM.out.at hkl
      obtain ⟨p, Hp⟩ : ∃ m, Hid (m = l[k]) := ⟨_, Lib.hid rfl⟩
      rw [← Hp.out] at hrg
      have HRg := Lib.hid (rangeB hrg hbk HR.out.1)
      obtain ⟨pn, Hpn⟩ : ∃ m, Hid (m = p.props.length) := ⟨_, Lib.hid rfl⟩
      rw [← Hpn.out] at HRg
      have HOne := Lib.hid (ptC_one p po pn pc)
      have HSz := Lib.hid part_size
      obtain ⟨U, HU⟩ : ∃ w, Hid (w = wr.alloc (.cells (ptC p (.slice po pn pc)).toArray 45)) := ⟨_, Lib.hid rfl⟩
      have HWU : Hid (Whole U wr.heap.size 45 (ptC p (.slice po pn pc)).toArray) := Lib.hid (by rw [HU.out]; exact Whole.new _ _ _)
      have HBU : Hid (Below wr.heap.size wr U) := Lib.hid (by rw [HU.out]; exact (Below.refl _ _).alloc (Nat.le_refl _) _)
      have HBWU := Lib.hid (below_step HR.out.1 HBU.out)
      have hC := Lib.hid (HC.out p (.slice po pn pc) U ⟨_, _, _, rfl⟩ HBWU.out)
      obtain ⟨b, Hb⟩ : ∃ u, Hid (u = Con.twin host x p) := ⟨_, Lib.hid rfl⟩
      rw [← Hb.out] at hC
      clear hrg
      go_wp2_with (first
        | (with_reducible show wpList _ _ _ (Oper.mk _ (Op.load 45 _) _ _ _ _ :: _) _ _; refine wpList_load_mid rfl _ _ rfl bk (off + k * 14) rfl _ _ HRg.out Try.underlying45 rfl (HSz.out.trans rfl) ?_)
        | (with_reducible show wpList _ _ _ (Oper.mk _ (Op.store 45 _ _) _ _ _ _ :: _) _ _; refine Hid.out ?_))
      refine Lib.hid ?_
      refine wpList_store_new rfl _ _ _ rfl _ (ptC p (.slice po pn pc)).toArray rfl rfl (HSz.out.trans rfl) rfl HOne.out ?_
      rw [← HU.out]
      obtain ⟨g, Hg⟩ : ∃ g, Hid (g = wr.heap.size) := ⟨_, Lib.hid rfl⟩
      rw [← Hg.out] at HWU ⊢
      cases b with
      | true =>
        have HA : Hid (u = true) := Lib.hid (by rw [Hu.out]; exact Con.some_here hkl (by rw [← Hp.out]; exact Hb.out.symm))
        go_wp2_with (first
          | (with_reducible show wpList _ _ _ (Oper.mk _ (Op.load 45 _) _ _ _ _ :: _) _ _; refine wpList_load_mid rfl _ _ rfl g 0 rfl _ _ HWU.out.range Try.underlying45 rfl (HSz.out.trans rfl) ?_))
        refine hC.out.mono ?_
        rintro e w' ⟨rfl, hw⟩
        have HW := Lib.hid (below_step HBWU.out hw)
        clear hw
        go_wp2_with fail
        go_ret
        obtain rfl := HA.out
        exact ⟨rfl, HW.out⟩
      | false =>
        have HN := Lib.hid (Con.some_next hkl HR.out.2 (by rw [← Hp.out]; exact Hb.out.symm))
        go_wp2_with (first
          | (with_reducible show wpList _ _ _ (Oper.mk _ (Op.load 45 _) _ _ _ _ :: _) _ _; refine wpList_load_mid rfl _ _ rfl g 0 rfl _ _ HWU.out.range Try.underlying45 rfl (HSz.out.trans rfl) ?_))
        refine hC.out.mono ?_
        rintro e w' ⟨rfl, hw⟩
        have HW := Lib.hid (below_step HBWU.out hw)
        clear hw
        go_wp2_with fail
        go_round
        case rel => exact ⟨k + 1, by omega, by go_num, Lib.hid ⟨HW.out, HN.out⟩⟩
        case measure => simp [intOf]; omega
    · obtain rfl : k = n := by omega
      have hd : decide ((k : Int) < k) = false := decide_eq_false (by omega)
      have HA : Hid (u = false) := Lib.hid (by rw [Hu.out]; exact Con.some_end (by have := HR.out.2; rwa [Hn.out] at this))
      go_wp2_with fail
      go_ret
      obtain rfl := HA.out
      exact ⟨rfl, HR.out.1⟩

/-- The cells of a part that is fitted in a host of a state. -/
def fitC (p h : Prt) (pv hv : Value) (so : Option Addr) (n sc : Nat) : List Value := ptC p pv ++ ptC h hv ++ [.slice so n sc]
def subC (x : Sb) : List Value := [.string x.kind, .string x.slot, .string x.other, .string x.twin, .int .i64 x.to]
set_option maxRecDepth 100000 in
set_option maxHeartbeats 4000000 in
theorem permits_any (p h : Prt) (po ho : Option Addr) (pn pc hn hc : Nat) (so : Option Addr) (s : List Prt) (sc : Nat) (x : Sb) (day : Int) (hl : s.length ≤ 9223372036854775807) (W : World) (hi : IsL 14 ElPrt W so s) :
    Calls Try.prog 26 #[.agg (fitC p h (.slice po pn pc) (.slice ho hn hc) so s.length sc).toArray, .agg (subC x).toArray, .int .i64 day] W fun e w' => e = .returned (.bool (Con.permits s h p day x)) ∧ Below W.heap.size W w' := by
  obtain ⟨n, Hn⟩ : ∃ n, Hid (n = s.length) := ⟨_, Lib.hid rfl⟩
  obtain ⟨N, HN⟩ : ∃ N, Hid (N = W.heap.size) := ⟨_, Lib.hid rfl⟩
  obtain ⟨V, HV⟩ : ∃ w, Hid (w = (W.alloc (.cells (fitC p h (.slice po pn pc) (.slice ho hn hc) so n sc).toArray 62)).alloc (.cells (subC x).toArray 51)) := ⟨_, Lib.hid rfl⟩
  have HB : Hid (Below W.heap.size W V) := Lib.hid (by rw [HV.out]; exact below_alloc ((Below.refl _ _).alloc (Nat.le_refl _) _) _)
  have HA : Hid (Whole V N 62 (fitC p h (.slice po pn pc) (.slice ho hn hc) so n sc).toArray) := Lib.hid (by rw [HV.out, HN.out]; exact whole_belowM (Whole.new _ _ _) ((Below.refl _ _).alloc (Nat.le_refl _) _))
  have HX : Hid (Whole V (N + 1) 51 (subC x).toArray) := Lib.hid (by
    have e : N + 1 = (W.alloc (.cells (fitC p h (.slice po pn pc) (.slice ho hn hc) so n sc).toArray 62)).heap.size := by rw [size_alloc, HN.out]
    rw [HV.out, e]; exact Whole.new _ _ _)
  have HS := Lib.hid (someP_any h.name x N (N + 1) so s sc hl V (hi.below stPrt HB.out) (HA.out.cell 14) (HX.out.cell 3) (HX.out.cell 2))
  have c1 := HA.out.cell 1
  have c3 := HA.out.cell 3
  have c15 := HA.out.cell 15
  have c28 := HA.out.cell 28
  have x0 := HX.out.cell 0
  have x1 := HX.out.cell 1
  have x2 := HX.out.cell 2
  have x3 := HX.out.cell 3
  have x4 := HX.out.cell 4
  clear hi
  rw [← Hn.out] at HS ⊢
  unfold Con.permits
  obtain ⟨u, Hu⟩ : ∃ u, Hid (u = s.any (Con.twin h.name x)) := ⟨_, Lib.hid rfl⟩
  rw [← Hu.out] at HS ⊢
  obtain ⟨pk, Hpk⟩ : ∃ u, Hid (u = p.kind) := ⟨_, Lib.hid rfl⟩
  obtain ⟨psl, Hps⟩ : ∃ u, Hid (u = p.slot) := ⟨_, Lib.hid rfl⟩
  obtain ⟨hk, Hhk⟩ : ∃ u, Hid (u = h.kind) := ⟨_, Lib.hid rfl⟩
  obtain ⟨xk, xs, xo, xt, xto⟩ := x
  replace c1 : V.cell? ⟨N, 1, none⟩ = some (.string pk) := by rw [Hpk.out]; exact c1
  replace c3 : V.cell? ⟨N, 3, none⟩ = some (.string psl) := by rw [Hps.out]; exact c3
  replace c15 : V.cell? ⟨N, 15, none⟩ = some (.string hk) := by rw [Hhk.out]; exact c15
  replace c28 : V.cell? ⟨N, 28, none⟩ = some (.slice so n sc) := c28
  replace x0 : V.cell? ⟨N + 1, 0, none⟩ = some (.string xk) := x0
  replace x1 : V.cell? ⟨N + 1, 1, none⟩ = some (.string xs) := x1
  replace x2 : V.cell? ⟨N + 1, 2, none⟩ = some (.string xo) := x2
  replace x3 : V.cell? ⟨N + 1, 3, none⟩ = some (.string xt) := x3
  replace x4 : V.cell? ⟨N + 1, 4, none⟩ = some (.int .i64 xto) := x4
  rw [← Hpk.out, ← Hps.out, ← Hhk.out]
  dsimp only
  obtain ⟨b1, e1⟩ : ∃ b, (xk.toList == hk.toList) = b := ⟨_, rfl⟩
  obtain ⟨b2, e2⟩ : ∃ b, (xs.toList == psl.toList) = b := ⟨_, rfl⟩
  obtain ⟨b3, e3⟩ : ∃ b, (xo.toList == pk.toList) = b := ⟨_, rfl⟩
  obtain ⟨b4, e4⟩ : ∃ b, decide (xto < day) = b := ⟨_, rfl⟩
  obtain ⟨b5, e5⟩ : ∃ b, xt.toList.isEmpty = b := ⟨_, rfl⟩
  have e4' : decide (day ≤ xto) = !b4 := by
    rw [← e4, ← decide_not]
    congr 1
    exact propext (by omega)
  have e5' : decide (xt = Con.empty) = b5 := by rw [← Con.eq_empty]; exact e5
  rw [← Con.eq_list, ← Con.eq_list, ← Con.eq_list, e1, e2, e3, e4', e5']
  have f1 : (xk.toList != hk.toList) = !b1 := by rw [bne, e1]
  have f2 : (xs.toList != psl.toList) = !b2 := by rw [bne, e2]
  have f3 : (xo.toList != pk.toList) = !b3 := by rw [bne, e3]
  clear e4' e5'
  go_enter Try.func26, Try.ntmps26
  go_wp2_with (first
    | (with_reducible show wpList _ _ _ (Oper.mk _ (Op.fieldAddr 51 _ 0) _ _ _ _ :: _) _ _; refine Hid.out ?_))
  refine Lib.hid ?_
  rw [← HN.out, ← HV.out]
  have hmf : ∀ (fn : Fn) (first cap : Array Value) (w : World), (Instr.makeFunc fn first cap).run Try.prog w = .ok (.func fn first cap) w := fun _ _ _ _ => rfl
  cases b1 with
  | false =>
    go_wp2_with fail
    go_ret
    exact ⟨rfl, HB.out⟩
  | true =>
  cases b2 with
  | false =>
    go_wp2_with fail
    go_ret
    exact ⟨rfl, HB.out⟩
  | true =>
  cases b3 with
  | false =>
    go_wp2_with fail
    go_ret
    exact ⟨rfl, HB.out⟩
  | true =>
  cases b4 with
  | true =>
    go_wp2_with fail
    go_ret
    exact ⟨rfl, HB.out⟩
  | false =>
  cases b5 with
  | true =>
    go_wp2_with fail
    go_ret
    exact ⟨rfl, HB.out⟩
  | false =>
    go_wp2_with fail
    refine HS.out.mono ?_
    rintro e w' ⟨rfl, hw⟩
    have HW := Lib.hid (below_step HB.out hw)
    clear hw
    go_wp2_with fail
    go_ret
    exact ⟨rfl, HW.out⟩
end Go.Proofs.Ytapjnbofhdljfaa
