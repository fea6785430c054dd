/- validPart: what a true answer says. -/
import Derived.Test.YtapjnbofhdljfaaFltPart
import Derived.Test.YtapjnbofhdljfaaGrown
import Derived.Test.YtapjnbofhdljfaaConFew
namespace Go.Proofs.Ytapjnbofhdljfaa
open Go.RowKit
open Cat

theorem YesNo.any {q : Prop} {W w' : World} {b : Bool} (hq : q) (h : Below W.heap.size W w') : YesNo q W (.returned (.bool b)) w' := ⟨b, rfl, fun _ => hq, h⟩
/-- No string of a part is longer than a string may be. -/
def SzPrt (p : Prt) : Prop := p.name.size ≤ 9223372036854775807 ∧ p.kind.size ≤ 9223372036854775807 ∧ p.into.size ≤ 9223372036854775807 ∧ p.slot.size ≤ 9223372036854775807 ∧ ∀ q ∈ p.props, q.1.size ≤ 9223372036854775807 ∧ q.2.size ≤ 9223372036854775807
/-- What is asked of a part's name. -/
def NamedPrt (p : Prt) : Prop := p.name ≠ Con.empty

/-- What is asked of a property behind others. -/
def okProp (l : List (ByteArray × ByteArray)) (i : Nat) (q : ByteArray × ByteArray) : Bool :=
  (match i with | 0 => true | i + 1 => match l[i]? with | none => true | some r => Op.bytesLess r.1.toList q.1.toList) && (Lex.nameB q.1.data.toList && (!q.2.toList.isEmpty && !decide ((200 : Int) < (q.2.size : Int))))
def okUpto (l : List (ByteArray × ByteArray)) (k : Nat) : Bool := (List.range k).all fun i => match l[i]? with | none => true | some q => okProp l i q
theorem okUpto_next {l : List (ByteArray × ByteArray)} {k : Nat} {q : ByteArray × ByteArray} (hq : l[k]? = some q) (h : okUpto l k = true) : okUpto l (k + 1) = okProp l k q := by
  unfold okUpto at h ⊢
  rw [List.range_succ, List.all_append, h, List.all_cons, hq]
  simp
theorem okUpto_no {l : List (ByteArray × ByteArray)} {k : Nat} (hk : k < l.length) (h : okUpto l (k + 1) = false) : okUpto l l.length = false := by
  unfold okUpto at h ⊢
  rw [List.all_eq_false] at h ⊢
  obtain ⟨i, hi, hh⟩ := h
  exact ⟨i, List.mem_range.2 (by have := List.mem_range.1 hi; omega), hh⟩
/-- A valid part, but for where it is. -/
def okPart (c : List Knd) (p : Prt) : Bool :=
  (c.any fun k => decide (k.name = p.kind)) && (Lex.nameB p.name.data.toList && (!decide (p.made < 0) && (!decide (p.since < p.made) && (!decide (40000 < p.since) && (!decide ((60 : Int) < (p.props.length : Int)) && (okUpto p.props p.props.length && (okIvl p.l0 p.l1 && (okIvl p.l2 p.l3 && okIvl p.l4 p.l5))))))))
theorem okPart_named {c : List Knd} {p : Prt} (h : okPart c p = true) : NamedPrt p := by
  unfold okPart at h
  simp only [Bool.and_eq_true] at h
  exact name_ne h.2.1
set_option maxRecDepth 100000 in
set_option maxHeartbeats 8000000 in
theorem validPart_any (co : Option Addr) (c : List Knd) (cc : Nat) (p : Prt) (po : Option Addr) (pc : Nat) (hl : c.length ≤ 9223372036854775807) (hsz : SzPrt p) (hpl : p.props.length ≤ 9223372036854775807) (W : World) (hi : IsL 3 ElKnd W co c) (hp : IsL 2 ElPrp W po p.props) :
    Calls Try.prog 31 #[.agg #[.slice co c.length cc], .agg (ptC p (.slice po p.props.length pc)).toArray] W fun e w' => e = .returned (.bool (okPart c p)) ∧ Below W.heap.size W w' := by
  obtain ⟨s0, s1, s2, s3, z4, z5, b6, ps, l0, l1, l2, l3, l4, l5⟩ := p
  unfold SzPrt at hsz
  unfold okPart ptC
  dsimp only at hsz hpl hp ⊢
  have HP := Lib.hid hp
  have HSZ := Lib.hid hsz
  have HCo := Lib.hid (fun (w : World) (g : Nat) (hw : Below W.heap.size W w) (h1 : w.cell? ⟨g, 1, none⟩ = some (.string s1)) => containsK_any co c cc g s1 hl w (hi.below stKnd hw) h1)
  have HNm := Lib.hid (fun (w : World) => name_wide s0 hsz.1 w)
  have HV2 := Lib.hid vp2_any
  have hmf : ∀ (fn : Fn) (first cap : Array Value) (w : World), (Instr.makeFunc fn first cap).run Try.prog w = .ok (.func fn first cap) w := fun _ _ _ _ => rfl
  obtain ⟨v, Hv⟩ : ∃ v, Hid (v = ((c.any fun k => decide (k.name = s1)) && (Lex.nameB s0.data.toList && (!decide (z4 < 0) && (!decide (z5 < z4) && (!decide (40000 < z5) && (!decide ((60 : Int) < (ps.length : Int)) && (okUpto ps ps.length && (okIvl l0 l1 && (okIvl l2 l3 && okIvl l4 l5)))))))))) := ⟨_, Lib.hid rfl⟩
  rw [← Hv.out]
  obtain ⟨x1, Hx1⟩ : ∃ b, Hid (b = (c.any fun k => decide (k.name = s1))) := ⟨_, Lib.hid rfl⟩
  rw [← Hx1.out] at Hv HCo
  clear hi hp hsz
  obtain ⟨n, Hn⟩ : ∃ n, Hid (n = ps.length) := ⟨_, Lib.hid rfl⟩
  rw [← Hn.out] at hpl Hv ⊢
  obtain ⟨cn, Hcn⟩ : ∃ n, Hid (n = c.length) := ⟨_, Lib.hid rfl⟩
  rw [← Hcn.out] at HCo ⊢
  obtain ⟨N, HN⟩ : ∃ N, Hid (N = W.heap.size) := ⟨_, Lib.hid rfl⟩
  obtain ⟨V, HV⟩ : ∃ w, Hid (w = (W.alloc (.cells #[.slice co cn cc] 24)).alloc (.cells #[.string s0, .string s1, .string s2, .string s3, .int .i64 z4, .int .i64 z5, .bool b6, .slice po n pc, .int .i64 l0, .int .i64 l1, .int .i64 l2, .int .i64 l3, .int .i64 l4, .int .i64 l5] 45)) := ⟨_, Lib.hid rfl⟩
  have HB : Hid (Below W.heap.size W V) := Lib.hid (by rw [HV.out]; exact below_alloc ((Below.refl _ _).alloc (Nat.le_refl _) _) _)
  have HA : Hid (Whole V (N + 1) 45 #[.string s0, .string s1, .string s2, .string s3, .int .i64 z4, .int .i64 z5, .bool b6, .slice po n pc, .int .i64 l0, .int .i64 l1, .int .i64 l2, .int .i64 l3, .int .i64 l4, .int .i64 l5]) := Lib.hid (by
    have e : N + 1 = (W.alloc (.cells #[.slice co cn cc] 24)).heap.size := by rw [size_alloc, HN.out]
    rw [HV.out, e]; exact Whole.new _ _ _)
  go_enter Try.func31, Try.ntmps31
  go_wp2_with fail
  rw [← HN.out, ← HV.out]
  refine (HCo.out V (N + 1) HB.out (HA.out.cell 1)).mono ?_
  rintro e w1 ⟨rfl, hb⟩
  have HA1 := Lib.hid (whole_belowM HA.out hb)
  have HB1 := Lib.hid (below_step HB.out hb)
  clear hb
  have c0 : w1.cell? ⟨N + 1, 0, none⟩ = some (.string s0) := HA1.out.cell 0
  have c4 : w1.cell? ⟨N + 1, 4, none⟩ = some (.int .i64 z4) := HA1.out.cell 4
  have c5 : w1.cell? ⟨N + 1, 5, none⟩ = some (.int .i64 z5) := HA1.out.cell 5
  have c7 : w1.cell? ⟨N + 1, 7, none⟩ = some (.slice po n pc) := HA1.out.cell 7
  cases x1 with
  | false =>
    obtain rfl : v = false := by rw [Hv.out]; rfl
    go_wp2_with fail
    go_ret
    exact ⟨rfl, HB1.out⟩
  | true =>
  go_wp2_with fail
  refine (HNm.out w1).mono ?_
  rintro e w' ⟨rfl, rfl⟩
  obtain ⟨nb, Hnb⟩ : ∃ b, Hid (b = Lex.nameB s0.data.toList) := ⟨_, Lib.hid rfl⟩
  rw [← Hnb.out] at Hv ⊢
  cases nb with
  | false =>
    obtain rfl : v = false := by rw [Hv.out]; rfl
    go_wp2_with fail
    go_ret
    exact ⟨rfl, HB1.out⟩
  | true =>
  obtain ⟨b1, d1⟩ : ∃ b, decide (z4 < 0) = b := ⟨_, rfl⟩
  obtain ⟨b2, d2⟩ : ∃ b, decide (z5 < z4) = b := ⟨_, rfl⟩
  obtain ⟨b3, d3⟩ : ∃ b, decide (40000 < z5) = b := ⟨_, rfl⟩
  obtain ⟨b4, d4⟩ : ∃ b, decide ((60 : Int) < (n : Int)) = b := ⟨_, rfl⟩
  rw [d1, d2, d3, d4] at Hv
  cases b1 with
  | true =>
    obtain rfl : v = false := by rw [Hv.out]; rfl
    go_wp2_with fail
    go_ret
    exact ⟨rfl, HB1.out⟩
  | false =>
  cases b2 with
  | true =>
    obtain rfl : v = false := by rw [Hv.out]; rfl
    go_wp2_with fail
    go_ret
    exact ⟨rfl, HB1.out⟩
  | false =>
  cases b3 with
  | true =>
    obtain rfl : v = false := by rw [Hv.out]; rfl
    go_wp2_with fail
    go_ret
    exact ⟨rfl, HB1.out⟩
  | false =>
  cases b4 with
  | true =>
    obtain rfl : v = false := by rw [Hv.out]; rfl
    go_wp2_with fail
    go_ret
    exact ⟨rfl, HB1.out⟩
  | false =>
  have h60 : ¬ 60 < n := by have := of_decide_eq_false d4; omega
  have HV5 : Hid (v = (okUpto ps n && (okIvl l0 l1 && (okIvl l2 l3 && okIvl l4 l5)))) := Lib.hid (by rw [Hv.out]; rfl)
  have HNoV : Hid (∀ k : Nat, k < n → okUpto ps (k + 1) = false → v = false) := Lib.hid (fun k h1 h2 => by
    rw [HV5.out, Hn.out, okUpto_no (by rw [← Hn.out]; exact h1) h2]; rfl)
  go_wp2_with fail
  clear d1 d2 d3 d4
  go_loopw [47] (fun i wr => ∃ k : Nat, k ≤ n ∧ i = .int .i64 k ∧ Hid (Below w1.heap.size w1 wr ∧ okUpto ps k = true)) (fun i _ => n - (intOf i).toNat)
  case atStart => exact ⟨0, Nat.zero_le _, by go_num, Lib.hid ⟨Below.refl _ _, rfl⟩⟩
  case round =>
    obtain ⟨k, hk, rfl, HR⟩ := hrel
    have HBr := Lib.hid (below_step HB1.out HR.out.1)
    by_cases hkn : k < n
    · have hd : decide ((k : Int) < n) = true := decide_eq_true (by omega)
      have hb0 : (0 : Int) ≤ k := by omega
      have hb1 : (k : Int) < n := by omega
      have hkl : k < ps.length := by rw [← Hn.out]; exact hkn
      obtain ⟨bk, off, cs, rfl, hbk, hrg, hel⟩ := HP.out.at hkl
      obtain ⟨q, Hq⟩ : ∃ m, Hid (m = ps[k]) := ⟨_, Lib.hid rfl⟩
      rw [← Hq.out] at hel
      unfold ElPrp at hel
      subst hel
      have hrg := rangeB hrg hbk HBr.out
      have e0 := hrg 0 _ rfl
      have e1 := hrg 1 _ rfl
      rw [Nat.add_zero] at e0
      obtain ⟨q0, q1⟩ := q
      dsimp only at e0 e1
      obtain ⟨U, HU⟩ : ∃ w, Hid (w = wr.alloc (.cells #[.string q0, .string q1] 80)) := ⟨_, Lib.hid rfl⟩
      have HBU : Hid (Below wr.heap.size wr U) := Lib.hid (by rw [HU.out]; exact (Below.refl _ _).alloc (Nat.le_refl _) _)
      have HBWU := Lib.hid (below_step HR.out.1 HBU.out)
      obtain ⟨g, Hg⟩ : ∃ g, Hid (g = wr.heap.size) := ⟨_, Lib.hid rfl⟩
      have HWU : Hid (Whole U g 80 #[.string q0, .string q1]) := Lib.hid (by rw [HU.out, Hg.out]; exact Whole.new _ _ _)
      have HAU := Lib.hid (whole_belowM HA1.out HBWU.out)
      have HqS : Hid (q0.size ≤ 9223372036854775807 ∧ q1.size ≤ 9223372036854775807) := Lib.hid (by have := HSZ.out.2.2.2.2 _ (List.getElem_mem hkl); rw [← Hq.out] at this; exact this)
      have HNq := Lib.hid (fun (w : World) => name_wide q0 HqS.out.1 w)
      clear hrg hbk
      have g0 : ∀ X : Grown U, X.w.cell? ⟨g, 0, none⟩ = some (.string q0) := fun X => by rw [X.cell HWU.out.lt]; exact HWU.out.cell 0
      have g1 : ∀ X : Grown U, X.w.cell? ⟨g, 1, none⟩ = some (.string q1) := fun X => by rw [X.cell HWU.out.lt]; exact HWU.out.cell 1
      have g7 : ∀ X : Grown U, X.w.cell? ⟨N + 1, 7, none⟩ = some (.slice (some ⟨bk, off, none⟩) n pc) := fun X => by rw [X.cell HAU.out.lt]; exact HAU.out.cell 7
      have HNx := Lib.hid (fun X : Grown U => grown_of_same (x := X) (HNq.out X.w))
      go_wp2_with fail
      rw [← HU.out, ← Hg.out]
      obtain ⟨nb, Hnb⟩ : ∃ b, Hid (b = Lex.nameB q0.data.toList) := ⟨_, Lib.hid rfl⟩
      rw [← Hnb.out] at HNx
      have HqG : Hid (ps[k]? = some (q0, q1)) := Lib.hid (by rw [List.getElem?_eq_getElem hkl, ← Hq.out])
      have HNoV : Hid (okProp ps k (q0, q1) = false → v = false) := Lib.hid (fun h => HNoV.out k hkn (by rw [okUpto_next HqG.out HR.out.2]; exact h))
      have HNo : Hid (∀ Z : Grown U, Below W.heap.size W Z.w) := Lib.hid (fun Z => below_step HB1.out (below_step HBWU.out Z.below))
      obtain ⟨bz, hbz⟩ : ∃ b, decide (0 < k) = b := ⟨_, rfl⟩
      have hk0 : decide ((0 : Int) < (k : Int)) = bz := by rw [← hbz]; congr 1; exact propext (by omega)
      cases bz with
      | false =>
        have HOk : Hid (okProp ps k (q0, q1) = (nb && (!q1.toList.isEmpty && !decide ((200 : Int) < (q1.size : Int))))) := Lib.hid (by
          obtain rfl : k = 0 := by have := of_decide_eq_false hbz; omega
          rw [Hnb.out]; rfl)
        cases nb with
        | false =>
          obtain rfl : v = false := HNoV.out (by rw [HOk.out]; simp)
          refine wp_region_grown (by kernel_rfl) (by kernel_rfl) ?_
          repeat (go_big_quiet_step (exact HNx.out _))
          refine wpQuiet_nil ?_
          rintro _ ⟨Z, rfl⟩
          go_wp2_with fail
          go_ret
          exact ⟨rfl, HNo.out Z⟩
        | true =>
          cases em1 : q1.toList.isEmpty with
          | true =>
            obtain rfl : v = false := HNoV.out (by rw [HOk.out, em1]; simp)
            refine wp_region_grown (by kernel_rfl) (by kernel_rfl) ?_
            repeat (go_big_quiet_step (exact HNx.out _))
            refine wpQuiet_nil ?_
            rintro _ ⟨Z, rfl⟩
            go_wp2_with fail
            go_ret
            exact ⟨rfl, HNo.out Z⟩
          | false =>
            cases em2 : decide ((200 : Int) < (q1.size : Int)) with
            | true =>
              obtain rfl : v = false := HNoV.out (by rw [HOk.out, em1, em2]; simp)
              refine wp_region_grown (by kernel_rfl) (by kernel_rfl) ?_
              repeat (go_big_quiet_step (exact HNx.out _))
              refine wpQuiet_nil ?_
              rintro _ ⟨Z, rfl⟩
              go_wp2_with fail
              go_ret
              exact ⟨rfl, HNo.out Z⟩
            | false =>
              have HYes : Hid (okUpto ps (k + 1) = true) := Lib.hid (by rw [okUpto_next HqG.out HR.out.2, HOk.out, em1, em2]; rfl)
              refine wp_region_grown (by kernel_rfl) (by kernel_rfl) ?_
              repeat (go_big_quiet_step (exact HNx.out _))
              refine wpQuiet_nil ?_
              rintro _ ⟨Z, rfl⟩
              go_wp2_with fail
              go_round
              case rel => exact ⟨k + 1, by omega, by go_num, Lib.hid ⟨below_step HBWU.out Z.below, HYes.out⟩⟩
              case measure => simp [intOf]; omega
      | true =>
        have hkp : 0 < k := of_decide_eq_true hbz
        obtain ⟨j, hj⟩ : ∃ j : Nat, (k : Int) - 1 = (j : Int) := ⟨k - 1, by omega⟩
        have hjl : j < ps.length := by omega
        have hjn : (j : Int) < n := by omega
        have hj0 : (0 : Int) ≤ j := by omega
        obtain ⟨bk2, off2, cs, hbo, hbk, hrg, hel⟩ := HP.out.at hjl
        cases hbo
        unfold ElPrp at hel
        subst hel
        obtain ⟨r, Hr⟩ : ∃ m, Hid (m = ps[j]) := ⟨_, Lib.hid rfl⟩
        rw [← Hr.out] at hrg
        obtain ⟨r0, r1⟩ := r
        have hrg := rangeB hrg hbk (below_step HBr.out HBU.out)
        have h0 := hrg 0 _ rfl
        rw [Nat.add_zero] at h0
        dsimp only at h0
        have gh : ∀ X : Grown U, X.w.cell? ⟨bk, off + j * 2, none⟩ = some (.string r0) := fun X => by rw [X.cell (lt_of_cell h0)]; exact h0
        clear hrg hbk h0
        have HOk : Hid (okProp ps k (q0, q1) = (Op.bytesLess r0.toList q0.toList && (nb && (!q1.toList.isEmpty && !decide ((200 : Int) < (q1.size : Int)))))) := Lib.hid (by
          obtain rfl : k = j + 1 := by omega
          rw [Hnb.out]
          unfold okProp
          dsimp only
          rw [List.getElem?_eq_getElem hjl, ← Hr.out])
        cases bl : Op.bytesLess r0.toList q0.toList with
        | false =>
          obtain rfl : v = false := HNoV.out (by rw [HOk.out, bl]; rfl)
          refine wp_region_grown (by kernel_rfl) (by kernel_rfl) ?_
          repeat (go_big_quiet_step (exact HNx.out _))
          refine wpQuiet_nil ?_
          rintro _ ⟨Z, rfl⟩
          go_wp2_with fail
          go_ret
          exact ⟨rfl, HNo.out Z⟩
        | true =>
          rw [bl, Bool.true_and] at HOk
          cases nb with
          | false =>
            obtain rfl : v = false := HNoV.out (by rw [HOk.out]; simp)
            refine wp_region_grown (by kernel_rfl) (by kernel_rfl) ?_
            repeat (go_big_quiet_step (exact HNx.out _))
            refine wpQuiet_nil ?_
            rintro _ ⟨Z, rfl⟩
            go_wp2_with fail
            go_ret
            exact ⟨rfl, HNo.out Z⟩
          | true =>
            cases em1 : q1.toList.isEmpty with
            | true =>
              obtain rfl : v = false := HNoV.out (by rw [HOk.out, em1]; simp)
              refine wp_region_grown (by kernel_rfl) (by kernel_rfl) ?_
              repeat (go_big_quiet_step (exact HNx.out _))
              refine wpQuiet_nil ?_
              rintro _ ⟨Z, rfl⟩
              go_wp2_with fail
              go_ret
              exact ⟨rfl, HNo.out Z⟩
            | false =>
              cases em2 : decide ((200 : Int) < (q1.size : Int)) with
              | true =>
                obtain rfl : v = false := HNoV.out (by rw [HOk.out, em1, em2]; simp)
                refine wp_region_grown (by kernel_rfl) (by kernel_rfl) ?_
                repeat (go_big_quiet_step (exact HNx.out _))
                refine wpQuiet_nil ?_
                rintro _ ⟨Z, rfl⟩
                go_wp2_with fail
                go_ret
                exact ⟨rfl, HNo.out Z⟩
              | false =>
                have HYes : Hid (okUpto ps (k + 1) = true) := Lib.hid (by rw [okUpto_next HqG.out HR.out.2, HOk.out, em1, em2]; rfl)
                refine wp_region_grown (by kernel_rfl) (by kernel_rfl) ?_
                repeat (go_big_quiet_step (exact HNx.out _))
                refine wpQuiet_nil ?_
                rintro _ ⟨Z, rfl⟩
                go_wp2_with fail
                go_round
                case rel => exact ⟨k + 1, by omega, by go_num, Lib.hid ⟨below_step HBWU.out Z.below, HYes.out⟩⟩
                case measure => simp [intOf]; omega
    · obtain rfl : k = n := by omega
      have hd : decide ((k : Int) < k) = false := decide_eq_false (by omega)
      have r8 : wr.cell? ⟨N + 1, 8, none⟩ = some (.int .i64 l0) := (whole_belowM HA1.out HR.out.1).cell 8
      have r9 : wr.cell? ⟨N + 1, 9, none⟩ = some (.int .i64 l1) := (whole_belowM HA1.out HR.out.1).cell 9
      have HV6 : Hid (v = (okIvl l0 l1 && (okIvl l2 l3 && okIvl l4 l5))) := Lib.hid (by rw [HV5.out, HR.out.2]; rfl)
      obtain ⟨x2, Hx2⟩ : ∃ b, Hid (b = okIvl l0 l1) := ⟨_, Lib.hid rfl⟩
      obtain ⟨x3, Hx3⟩ : ∃ b, Hid (b = okIvl l2 l3) := ⟨_, Lib.hid rfl⟩
      obtain ⟨x4, Hx4⟩ : ∃ b, Hid (b = okIvl l4 l5) := ⟨_, Lib.hid rfl⟩
      rw [← Hx2.out, ← Hx3.out, ← Hx4.out] at HV6
      have q2 := HV2.out l0 l1 wr
      rw [← Hx2.out] at q2
      go_wp2_with fail
      refine q2.mono ?_
      rintro e w2 ⟨rfl, hb⟩
      have HB2 := Lib.hid (below_step HR.out.1 hb)
      clear hb r8 r9 q2
      cases x2 with
      | false =>
        obtain rfl : v = false := by rw [HV6.out]; rfl
        go_wp2_with fail
        go_ret
        exact ⟨rfl, below_step HB1.out HB2.out⟩
      | true =>
      have r8 : w2.cell? ⟨N + 1, 10, none⟩ = some (.int .i64 l2) := (whole_belowM HA1.out HB2.out).cell 10
      have r9 : w2.cell? ⟨N + 1, 11, none⟩ = some (.int .i64 l3) := (whole_belowM HA1.out HB2.out).cell 11
      have q2 := HV2.out l2 l3 w2
      rw [← Hx3.out] at q2
      go_wp2_with fail
      refine q2.mono ?_
      rintro e w3 ⟨rfl, hb⟩
      have HB3 := Lib.hid (below_step HB2.out hb)
      clear hb r8 r9 q2
      cases x3 with
      | false =>
        obtain rfl : v = false := by rw [HV6.out]; rfl
        go_wp2_with fail
        go_ret
        exact ⟨rfl, below_step HB1.out HB3.out⟩
      | true =>
      have r8 : w3.cell? ⟨N + 1, 12, none⟩ = some (.int .i64 l4) := (whole_belowM HA1.out HB3.out).cell 12
      have r9 : w3.cell? ⟨N + 1, 13, none⟩ = some (.int .i64 l5) := (whole_belowM HA1.out HB3.out).cell 13
      have q2 := HV2.out l4 l5 w3
      rw [← Hx4.out] at q2
      go_wp2_with fail
      refine q2.mono ?_
      rintro e w4 ⟨rfl, hb⟩
      have HB4 := Lib.hid (below_step HB3.out hb)
      clear hb r8 r9 q2
      obtain rfl : v = x4 := by rw [HV6.out]; rfl
      go_wp2_with fail
      go_ret
      exact ⟨rfl, below_step HB1.out HB4.out⟩
end Go.Proofs.Ytapjnbofhdljfaa
