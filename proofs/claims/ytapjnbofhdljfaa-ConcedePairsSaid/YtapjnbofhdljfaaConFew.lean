/- Few: what is of a moderate size. -/
import Derived.Test.YtapjnbofhdljfaaConPermitted
namespace Go.Proofs.Ytapjnbofhdljfaa
open Go.RowKit
open Cat

/-- The answer of what asks for sizes: true only if they are such. -/
def YesNo (q : Prop) (W : World) (e : Ending) (w' : World) : Prop := ∃ b, e = .returned (.bool b) ∧ (b = true → q) ∧ Below W.heap.size W w'
theorem YesNo.no {q : Prop} {W w' : World} (h : Below W.heap.size W w') : YesNo q W (.returned (.bool false)) w' := ⟨false, rfl, by simp, h⟩
theorem YesNo.yes {q : Prop} {W w' : World} (hq : q) (h : Below W.heap.size W w') : YesNo q W (.returned (.bool true)) w' := ⟨true, rfl, fun _ => hq, h⟩
/-- A comparison of a length, as the walk spells it. -/
theorem gtr_nat (n m : Nat) : decide ((n : Int) < (m : Int)) = decide (n < m) := by
  congr 1
  exact propext (by omega)

/-- A comparison whose left side is whatever it is. -/
theorem wpList_gtr {ops : Array Oper} {rest : List Oper} {op : Oper} {a : Act} {w : World} {Q : Exit → Act → World → Prop} (hgd : op.guard = none) (x : Operand) (c : Int) (ho : op.op = .binOp .gtr 3 x (.const (.int .i64 c)) 3)
    (z : Int) (hx : a.eval x = .int .i64 z) (h : ∀ b, b = decide (c < z) → wpList Try.prog ops Q rest (a.put op.dst (.bool b)) w) : wpList Try.prog ops Q (op :: rest) a w :=
  wpList_plain hgd fun _ hK => by
    have e : (execOp a.eval op).run Try.prog w = .ok (.value (.bool (decide (c < z)))) w := by
      unfold execOp
      simp only [ho, hx]
      go_simp
    unfold Oper.wp
    rw [e]
    exact hK _ _ (h _ rfl)

set_option maxRecDepth 100000 in
set_option maxHeartbeats 4000000 in
theorem few10_any (so : Option Addr) (s : List Prt) (sc : Nat) (hl : s.length ≤ 9223372036854775807) (W : World) (hi : IsL 14 ElPrt W so s) :
    Calls Try.prog 21 #[.agg #[.slice so s.length sc], .int .i64 24] W fun e w' => ∃ b, e = .returned (.bool b) ∧ (b = true → s.length ≤ 24 ∧ ∀ p ∈ s, p.props.length ≤ 65) ∧ Below W.heap.size W w' := by
  have HI := Lib.hid hi
  clear hi
  obtain ⟨n, Hn⟩ : ∃ n, Hid (n = s.length) := ⟨_, Lib.hid rfl⟩
  rw [← Hn.out]
  rw [← Hn.out] at hl
  obtain ⟨N, HN⟩ : ∃ N, Hid (N = W.heap.size) := ⟨_, Lib.hid rfl⟩
  obtain ⟨V, HV⟩ : ∃ w, Hid (w = W.alloc (.cells #[.slice so n sc] 28)) := ⟨_, Lib.hid rfl⟩
  have HB : Hid (Below W.heap.size W V) := Lib.hid (by rw [HV.out]; exact (Below.refl _ _).alloc (Nat.le_refl _) _)
  have HA : Hid (Whole V N 28 #[.slice so n sc]) := Lib.hid (by rw [HV.out, HN.out]; exact Whole.new _ _ _)
  go_enter Try.func21, Try.ntmps21
  by_cases h24 : 24 < n
  · have d1 : decide ((24 : Int) < (n : Int)) = true := decide_eq_true (by omega)
    go_wp2_with fail
    rw [← HV.out]
    go_ret
    exact ⟨false, rfl, by simp, HB.out⟩
  have d1 : decide ((24 : Int) < (n : Int)) = false := decide_eq_false (by omega)
  go_wp2_with fail
  rw [← HN.out, ← HV.out]
  go_loopw [5] (fun i wr => ∃ k : Nat, k ≤ n ∧ i = .int .i64 k ∧ Hid (Below V.heap.size V wr ∧ ∀ p ∈ s.take k, p.props.length ≤ 65)) (fun i _ => n - (intOf i).toNat)
  case atStart => exact ⟨0, Nat.zero_le _, by go_num, Lib.hid ⟨Below.refl _ _, by simp⟩⟩
  case round =>
    obtain ⟨k, hk, rfl, HR⟩ := hrel
    have HBr := Lib.hid (below_step HB.out HR.out.1)
    have a0 := (cellB HR.out.1 HA.out.lt).trans (HA.out.cell 0)
    have a0 : wr.cell? ⟨N, 0, none⟩ = some (.slice so n sc) := a0
    by_cases hkn : k < n
    · have hd : decide ((k : Int) < n) = true := decide_eq_true (by omega)
      have hb0 : (0 : Int) ≤ k := by omega
      have hb1 : (k : Int) < n := by omega
      have hkl : k < s.length := by rw [← Hn.out]; exact hkn
      obtain ⟨bk, off, cs, rfl, hbk, hrg, po, pc, rfl, hpr, hp9⟩ := HI.out.at hkl
      obtain ⟨p, Hp⟩ : ∃ m, Hid (m = s[k]) := ⟨_, Lib.hid rfl⟩
      rw [← Hp.out] at hrg hpr hp9
      have HRg := Lib.hid (rangeB hrg hbk HBr.out)
      obtain ⟨m, Hm⟩ : ∃ m, Hid (m = p.props.length) := ⟨_, Lib.hid rfl⟩
      rw [← Hm.out] at HRg hp9
      have HOne := Lib.hid (ptC_one p po m pc)
      have HSz := Lib.hid part_size
      obtain ⟨g, Hg⟩ : ∃ g, Hid (g = wr.heap.size) := ⟨_, Lib.hid rfl⟩
      obtain ⟨U, HU⟩ : ∃ w, Hid (w = wr.alloc (.cells (ptC p (.slice po m pc)).toArray 45)) := ⟨_, Lib.hid rfl⟩
      have HWU : Hid (Whole U g 45 (ptC p (.slice po m pc)).toArray) := Lib.hid (by rw [HU.out, Hg.out]; exact Whole.new _ _ _)
      have HBU : Hid (Below wr.heap.size wr U) := Lib.hid (by rw [HU.out]; exact (Below.refl _ _).alloc (Nat.le_refl _) _)
      have HBVU := Lib.hid (below_step HR.out.1 HBU.out)
      have HPr := Lib.hid (hpr.below stPrp (below_step HBr.out HBU.out))
      have htk : s.take (k + 1) = s.take k ++ [p] := by rw [Hp.out]; exact List.take_succ_eq_append_getElem hkl
      have HNx : Hid (m ≤ 65 → ∀ q ∈ s.take (k + 1), q.props.length ≤ 65) := Lib.hid (fun h q hq => by
        rw [htk] at hq
        rcases List.mem_append.1 hq with hq | hq
        · exact HR.out.2 q hq
        · rw [List.mem_singleton.1 hq, ← Hm.out]; exact h)
      clear hrg hpr htk
      go_wp2_with (first
        | (with_reducible show wpList _ _ _ (Oper.mk _ (Op.load 45 _) _ _ _ _ :: _) _ _; refine wpList_load_mid rfl _ _ rfl bk (off + k * 14) rfl _ _ HRg.out Try.underlying45 rfl (HSz.out.trans rfl) ?_)
        | (with_reducible show wpList _ _ _ (Oper.mk _ (Op.store 45 _ _) _ _ _ _ :: _) _ _; refine Hid.out ?_))
      refine Lib.hid ?_
      refine wpList_store_new rfl _ _ _ rfl _ (ptC p (.slice po m pc)).toArray rfl rfl (HSz.out.trans rfl) rfl HOne.out ?_
      rw [← HU.out, ← Hg.out]
      obtain ⟨n0, Hn0⟩ : ∃ u, Hid (u = p.name) := ⟨_, Lib.hid rfl⟩
      obtain ⟨n1, Hn1⟩ : ∃ u, Hid (u = p.kind) := ⟨_, Lib.hid rfl⟩
      obtain ⟨n2, Hn2⟩ : ∃ u, Hid (u = p.into) := ⟨_, Lib.hid rfl⟩
      obtain ⟨n3, Hn3⟩ : ∃ u, Hid (u = p.slot) := ⟨_, Lib.hid rfl⟩
      have u0 : U.cell? ⟨g, 0, none⟩ = some (.string n0) := by rw [Hn0.out]; exact HWU.out.cell 0
      have u1 : U.cell? ⟨g, 1, none⟩ = some (.string n1) := by rw [Hn1.out]; exact HWU.out.cell 1
      have u2 : U.cell? ⟨g, 2, none⟩ = some (.string n2) := by rw [Hn2.out]; exact HWU.out.cell 2
      have u3 : U.cell? ⟨g, 3, none⟩ = some (.string n3) := by rw [Hn3.out]; exact HWU.out.cell 3
      have u7 : U.cell? ⟨g, 7, none⟩ = some (.slice po m pc) := HWU.out.cell 7
      go_wp2_with (first
        | (with_reducible show wpList _ _ _ (Oper.mk _ (Op.binOp .gtr _ _ _ _) _ _ _ _ :: _) _ _; refine Hid.out ?_))
      refine Lib.hid ?_
      refine wpList_gtr rfl _ _ rfl _ rfl ?_
      intro b hbx
      clear hbx
      cases b with
      | true =>
        go_wp2_with fail
        go_ret
        exact ⟨false, rfl, by simp, below_step HB.out HBVU.out⟩
      | false =>
      by_cases h65 : 65 < m
      · have d2 : decide ((65 : Int) < (m : Int)) = true := decide_eq_true (by omega)
        go_wp2_with fail
        go_ret
        exact ⟨false, rfl, by simp, below_step HB.out HBVU.out⟩
      have d2 : decide ((65 : Int) < (m : Int)) = false := decide_eq_false (by omega)
      go_wp2_with fail
      go_loopw [7] (fun i wr => ∃ j : Nat, j ≤ m ∧ i = .int .i64 j ∧ Hid (Below U.heap.size U wr)) (fun i _ => m - (intOf i).toNat)
      case atStart => exact ⟨0, Nat.zero_le _, by go_num, Lib.hid (Below.refl _ _)⟩
      case round =>
        obtain ⟨j, hj, rfl, HJ⟩ := hrel
        have z7 : wr.cell? ⟨g, 7, none⟩ = some (.slice po m pc) := (cellB HJ.out HWU.out.lt).trans (HWU.out.cell 7)
        have HBj := Lib.hid (below_step HBVU.out HJ.out)
        by_cases hjm : j < m
        · have hd3 : decide ((j : Int) < m) = true := decide_eq_true (by omega)
          have hb2 : (0 : Int) ≤ j := by omega
          have hb3 : (j : Int) < m := by omega
          have hjl : j < p.props.length := by rw [← Hm.out]; exact hjm
          obtain ⟨bq, oq, cs, rfl, hbq, hrq, hel⟩ := HPr.out.at hjl
          obtain ⟨q, Hq⟩ : ∃ m, Hid (m = p.props[j]) := ⟨_, Lib.hid rfl⟩
          rw [← Hq.out] at hel
          unfold ElPrp at hel
          subst hel
          have hrq := rangeB hrq hbq HJ.out
          have r0 := hrq 0 _ rfl
          have r1 := hrq 1 _ rfl
          rw [Nat.add_zero] at r0
          obtain ⟨q0, q1⟩ := q
          dsimp only at r0 r1
          have hbq' : bq < wr.heap.size := lt_of_cell r0
          have hgr : g < wr.heap.size := lt_of_cell z7
          have gz7 : ∀ X : Grown wr, X.w.cell? ⟨g, 7, none⟩ = some (.slice (some ⟨bq, oq, none⟩) m pc) := fun X => by rw [X.cell hgr]; exact z7
          have gr0 : ∀ X : Grown wr, X.w.cell? ⟨bq, oq + j * 2, none⟩ = some (.string q0) := fun X => by rw [X.cell hbq']; exact r0
          have gr1 : ∀ X : Grown wr, X.w.cell? ⟨bq, oq + j * 2 + 1, none⟩ = some (.string q1) := fun X => by rw [X.cell hbq']; exact r1
          obtain ⟨b, eb⟩ : ∃ b, decide ((300 : Int) < wrap64 ((q0.size : Int) + (q1.size : Int))) = b := ⟨_, rfl⟩
          clear hrq
          cases b with
          | true =>
            go_wp2_with fail
            refine wp_region_grown (by kernel_rfl) (by kernel_rfl) ?_
            repeat (go_big_quiet_step (fail))
            refine wpQuiet_nil ?_
            rintro _ ⟨Y, rfl⟩
            go_wp2_with fail
            go_ret
            exact ⟨false, rfl, by simp, below_step HB.out (below_step HBj.out Y.below)⟩
          | false =>
            go_wp2_with fail
            refine wp_region_grown (by kernel_rfl) (by kernel_rfl) ?_
            repeat (go_big_quiet_step (fail))
            refine wpQuiet_nil ?_
            rintro _ ⟨Y, rfl⟩
            go_wp2_with fail
            go_round
            case rel => exact ⟨j + 1, by omega, by go_num, Lib.hid (below_step HJ.out Y.below)⟩
            case measure => simp [intOf]; omega
        · obtain rfl : j = m := by omega
          have hd3 : decide ((j : Int) < j) = false := decide_eq_false (by omega)
          go_wp2_with fail
          go_round
          case rel => exact ⟨k + 1, by omega, by go_num, Lib.hid ⟨HBj.out, HNx.out (by omega)⟩⟩
          case measure => simp [intOf]; omega
    · obtain rfl : k = n := by omega
      have hd : decide ((k : Int) < k) = false := decide_eq_false (by omega)
      have HA2 : Hid (k ≤ 24 ∧ ∀ p ∈ s, p.props.length ≤ 65) := Lib.hid ⟨by omega, by
        have := HR.out.2
        rwa [List.take_of_length_le (by rw [← Hn.out]; exact Nat.le_refl _)] at this⟩
      go_wp2_with fail
      go_ret
      exact ⟨true, rfl, fun _ => HA2.out, HBr.out⟩

set_option maxRecDepth 100000 in
set_option maxHeartbeats 8000000 in
theorem few08_any (co : Option Addr) (c : List Knd) (cc : Nat) (hl : c.length ≤ 9223372036854775807) (W : World) (hi : IsL 3 ElKnd W co c) :
    Calls Try.prog 20 #[.agg #[.slice co c.length cc]] W fun e w' => ∃ b, e = .returned (.bool b) ∧ Below W.heap.size W w' := by
  have HI := Lib.hid hi
  clear hi
  obtain ⟨n, Hn⟩ : ∃ n, Hid (n = c.length) := ⟨_, Lib.hid rfl⟩
  rw [← Hn.out]
  rw [← Hn.out] at hl
  obtain ⟨N, HN⟩ : ∃ N, Hid (N = W.heap.size) := ⟨_, Lib.hid rfl⟩
  obtain ⟨V, HV⟩ : ∃ w, Hid (w = W.alloc (.cells #[.slice co n cc] 24)) := ⟨_, Lib.hid rfl⟩
  have HB : Hid (Below W.heap.size W V) := Lib.hid (by rw [HV.out]; exact (Below.refl _ _).alloc (Nat.le_refl _) _)
  have HA : Hid (Whole V N 24 #[.slice co n cc]) := Lib.hid (by rw [HV.out, HN.out]; exact Whole.new _ _ _)
  go_enter Try.func20, Try.ntmps20
  obtain ⟨b0, e0⟩ : ∃ b, decide ((65 : Int) < (n : Int)) = b := ⟨_, rfl⟩
  cases b0 with
  | true =>
    go_wp2_with fail
    rw [← HV.out]
    go_ret
    exact ⟨false, rfl, HB.out⟩
  | false =>
  go_wp2_with fail
  rw [← HN.out, ← HV.out]
  go_loopw [3] (fun i wr => ∃ k : Nat, k ≤ n ∧ i = .int .i64 k ∧ Hid (Below V.heap.size V wr)) (fun i _ => n - (intOf i).toNat)
  case atStart => exact ⟨0, Nat.zero_le _, by go_num, Lib.hid (Below.refl _ _)⟩
  case round =>
    obtain ⟨k, hk, rfl, HR⟩ := hrel
    have HBr := Lib.hid (below_step HB.out HR.out)
    have a0 : wr.cell? ⟨N, 0, none⟩ = some (.slice co n cc) := (cellB HR.out HA.out.lt).trans (HA.out.cell 0)
    by_cases hkn : k < n
    · have hd : decide ((k : Int) < n) = true := decide_eq_true (by omega)
      have hb0 : (0 : Int) ≤ k := by omega
      have hb1 : (k : Int) < n := by omega
      have hkl : k < c.length := by rw [← Hn.out]; exact hkn
      obtain ⟨bk, off, cs, rfl, hbk, hrg, so, sc, rfl, hss, hs9⟩ := HI.out.at hkl
      obtain ⟨p, Hp⟩ : ∃ m, Hid (m = c[k]) := ⟨_, Lib.hid rfl⟩
      rw [← Hp.out] at hrg hss hs9
      have hrg := rangeB hrg hbk HBr.out
      have c0 := hrg 0 _ rfl
      have c1 := hrg 1 _ rfl
      have c2 := hrg 2 _ rfl
      rw [Nat.add_zero] at c0
      obtain ⟨m, Hm⟩ : ∃ m, Hid (m = p.slots.length) := ⟨_, Lib.hid rfl⟩
      rw [← Hm.out] at c2 hs9
      obtain ⟨pn0, Hpn0⟩ : ∃ m, Hid (m = p.name) := ⟨_, Lib.hid rfl⟩
      rw [← Hpn0.out] at c0
      obtain ⟨g, Hg⟩ : ∃ g, Hid (g = wr.heap.size) := ⟨_, Lib.hid rfl⟩
      obtain ⟨U, HU⟩ : ∃ w, Hid (w = wr.alloc (.cells #[.string pn0, .bool p.vehicle, .slice so m sc] 78)) := ⟨_, Lib.hid rfl⟩
      have HWU : Hid (Whole U g 78 #[.string pn0, .bool p.vehicle, .slice so m sc]) := Lib.hid (by rw [HU.out, Hg.out]; exact Whole.new _ _ _)
      have HBU : Hid (Below wr.heap.size wr U) := Lib.hid (by rw [HU.out]; exact (Below.refl _ _).alloc (Nat.le_refl _) _)
      have HBVU := Lib.hid (below_step HR.out HBU.out)
      have HSs := Lib.hid ((hss.below stSlt HBr.out).below stSlt HBU.out)
      obtain ⟨b1, e1⟩ : ∃ b, decide ((100 : Int) < (pn0.size : Int)) = b := ⟨_, rfl⟩
      obtain ⟨b2, e2⟩ : ∃ b, decide ((15 : Int) < (m : Int)) = b := ⟨_, rfl⟩
      clear hrg hss
      cases b1 with
      | true =>
        go_wp2_with fail
        go_ret
        exact ⟨false, rfl, by rw [← HU.out]; exact below_step HB.out HBVU.out⟩
      | false =>
      cases b2 with
      | true =>
        go_wp2_with fail
        go_ret
        exact ⟨false, rfl, by rw [← HU.out]; exact below_step HB.out HBVU.out⟩
      | false =>
      go_wp2_with fail
      rw [← Hg.out, ← HU.out]
      go_loopw [5] (fun i wr => ∃ j : Nat, j ≤ m ∧ i = .int .i64 j ∧ Hid (Below U.heap.size U wr)) (fun i _ => m - (intOf i).toNat)
      case atStart => exact ⟨0, Nat.zero_le _, by go_num, Lib.hid (Below.refl _ _)⟩
      case round =>
        obtain ⟨j, hj, rfl, HJ⟩ := hrel
        have z2 : wr.cell? ⟨g, 2, none⟩ = some (.slice so m sc) := (cellB HJ.out HWU.out.lt).trans (HWU.out.cell 2)
        have HBj := Lib.hid (below_step HBVU.out HJ.out)
        by_cases hjm : j < m
        · have hd3 : decide ((j : Int) < m) = true := decide_eq_true (by omega)
          have hb2 : (0 : Int) ≤ j := by omega
          have hb3 : (j : Int) < m := by omega
          have hjl : j < p.slots.length := by rw [← Hm.out]; exact hjm
          obtain ⟨bs, os, cs, rfl, hbs, hrs, ko, kc, rfl, hks, hk1, hk2⟩ := HSs.out.at hjl
          obtain ⟨x, Hx⟩ : ∃ m, Hid (m = p.slots[j]) := ⟨_, Lib.hid rfl⟩
          rw [← Hx.out] at hrs hks hk1
          have hrs := rangeB hrs hbs HJ.out
          have s0 := hrs 0 _ rfl
          have s1 := hrs 1 _ rfl
          rw [Nat.add_zero] at s0
          obtain ⟨xn, Hxn⟩ : ∃ m, Hid (m = x.name) := ⟨_, Lib.hid rfl⟩
          rw [← Hxn.out] at s0
          obtain ⟨q, Hq⟩ : ∃ m, Hid (m = x.kinds.length) := ⟨_, Lib.hid rfl⟩
          rw [← Hq.out] at s1 hk1
          have HKs := Lib.hid (hks.below HJ.out)
          obtain ⟨b3, e3⟩ : ∃ b, decide ((100 : Int) < (xn.size : Int)) = b := ⟨_, rfl⟩
          obtain ⟨b4, e4⟩ : ∃ b, decide ((15 : Int) < (q : Int)) = b := ⟨_, rfl⟩
          clear hrs hks
          cases b3 with
          | true =>
            go_wp2_with fail
            go_ret
            exact ⟨false, rfl, below_step HB.out HBj.out⟩
          | false =>
          cases b4 with
          | true =>
            go_wp2_with fail
            go_ret
            exact ⟨false, rfl, below_step HB.out HBj.out⟩
          | false =>
          go_wp2_with fail
          go_loopw [6] (fun i ws => ∃ l : Nat, l ≤ q ∧ i = .int .i64 l ∧ ws = wr) (fun i _ => q - (intOf i).toNat)
          case atStart => exact ⟨0, Nat.zero_le _, by go_num, rfl⟩
          case round =>
            obtain ⟨l, hlq, rfl, hw⟩ := hrel
            subst hw
            by_cases hl2 : l < q
            · have hd4 : decide ((l : Int) < q) = true := decide_eq_true (by omega)
              have hb4 : (0 : Int) ≤ l := by omega
              have hb5 : (l : Int) < q := by omega
              have hll : l < x.kinds.length := by rw [← Hq.out]; exact hl2
              rcases HKs.out with h | ⟨bz, oz, rfl, hbz, hcz⟩
              · rw [h] at hll; simp at hll
              have r0 := hcz l hll
              obtain ⟨y, Hy⟩ : ∃ y, Hid (y = x.kinds[l]) := ⟨_, Lib.hid rfl⟩
              rw [← Hy.out] at r0
              obtain ⟨b5, e5⟩ : ∃ b, decide ((100 : Int) < (y.size : Int)) = b := ⟨_, rfl⟩
              clear hcz
              cases b5 with
              | true =>
                go_wp2_with fail
                go_ret
                exact ⟨false, rfl, below_step HB.out HBj.out⟩
              | false =>
                go_wp2_with fail
                go_round
                case rel => exact ⟨l + 1, by omega, by go_num, trivial⟩
                case measure => simp [intOf]; omega
            · obtain rfl : l = q := by omega
              have hd4 : decide ((l : Int) < l) = false := decide_eq_false (by omega)
              go_wp2_with fail
              go_round
              case rel => exact ⟨j + 1, by omega, by go_num, HJ⟩
              case measure => simp [intOf]; omega
        · obtain rfl : j = m := by omega
          have hd3 : decide ((j : Int) < j) = false := decide_eq_false (by omega)
          go_wp2_with fail
          go_round
          case rel => exact ⟨k + 1, by omega, by go_num, HBj⟩
          case measure => simp [intOf]; omega
    · obtain rfl : k = n := by omega
      have hd : decide ((k : Int) < k) = false := decide_eq_false (by omega)
      go_wp2_with fail
      go_ret
      exact ⟨true, rfl, HBr.out⟩
end Go.Proofs.Ytapjnbofhdljfaa
