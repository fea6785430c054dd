/- Clone of properties, a part's copy, Find. -/
import Derived.Test.YtapjnbofhdljfaaConMath
import Derived.Test.YtapjnbofhdljfaaMemCopy
namespace Go.Proofs.Ytapjnbofhdljfaa
open Go.RowKit
open Cat

theorem info_prp : (Try.prog.info? 80).map (fun i => (i.zero, i.size, i.bytes)) = some (some (.agg #[.string ⟨#[]⟩, .string ⟨#[]⟩]), 2, 32) := by kernel_rfl
def prpC (p : ByteArray × ByteArray) : List Value := [.string p.1, .string p.2]
theorem zPrp : ∀ (W : World) (cs : List Value) (a : ByteArray × ByteArray), ElPrp W cs a → cs.length = 2 := fun _ cs _ h => by unfold ElPrp at h; rw [h]; rfl
set_option maxRecDepth 100000 in
set_option maxHeartbeats 2000000 in
theorem clone_prp (po : Option Addr) (ps : List (ByteArray × ByteArray)) (pc : Nat) (hl : ps.length ≤ 1000000) (W : World) (hi : IsL 2 ElPrp W po ps) :
    Calls Try.prog 49 #[.slice po ps.length pc] W fun e w' => ∃ qo qc css, e = .returned (.slice qo ps.length qc) ∧ w'.ownsRow W.heap.size 80 2 (.slice qo ps.length qc) ps.length css.flatten ∧ Says 2 ElPrp w' css ps ∧ Below W.heap.size W w' := by
  obtain ⟨i1, hi1, hy0, hy1, hy2⟩ := infoP info_prp
  obtain ⟨n, Hn⟩ : ∃ n, Hid (n = ps.length) := ⟨_, Lib.hid rfl⟩
  rw [← Hn.out]
  rw [← Hn.out] at hl
  have HI := Lib.hid hi
  clear hi
  cases po with
  | none =>
    have h0 : ps = [] := by
      rcases HI.out with h | ⟨_, _, h, _⟩
      · exact h
      · cases h
    have hn : n = 0 := by rw [Hn.out, h0]; rfl
    subst h0 hn
    have hnn : ∀ w, (binOp .eql 39 (.slice none 0 pc) (.slice none 0 0)).run Try.prog w = .ok (.bool true) w := fun _ => rfl
    go_enter Try.func49, Try.ntmps49
    go_wp2_with fail
    go_ret
    exact ⟨_, _, [], rfl, World.ownsRow_nil _ _ _ _, Says.nil, Below.refl _ _⟩
  | some ad =>
    have hnn : ∀ w, (binOp .eql 39 (.slice (some ad) n pc) (.slice none 0 0)).run Try.prog w = .ok (.bool false) w := fun _ => rfl
    have HB0 : Hid (Below W.heap.size W (W.alloc (.cells #[] 80))) := Lib.hid ((Below.refl _ _).alloc (Nat.le_refl _) _)
    have hmx : n ≤ maxLen := by unfold maxLen; omega
    go_enter Try.func49, Try.ntmps49
    go_wp2_with (at_builtin; refine wpList_copy_list rfl _ _ rfl Try.underlying39 hi1 hy0 hy1 hy2 rfl (by decide) stPrp zPrp W.heap.size rfl (Whole.new _ _ _) W.heap.size (Nat.le_refl _) ps n Hn.out hmx (by omega) (some ad) pc rfl (HI.out.below stPrp HB0.out) ?_; intro v w' css r1 r2 r3; refine Hid.out ?_)
    refine Lib.hid ?_
    obtain ⟨qo, qc, rfl⟩ := owns_shapeM r1
    have HL := Lib.hid (And.intro r1 r2)
    have HB := Lib.hid (below_step HB0.out r3)
    clear r1 r2 r3
    go_wp2_with fail
    go_ret
    exact ⟨_, _, css, rfl, HL.out.1, HL.out.2, HB.out⟩

/-- A part that is none. -/
def zPart : List Value := [.string ⟨#[]⟩, .string ⟨#[]⟩, .string ⟨#[]⟩, .string ⟨#[]⟩, .int .i64 0, .int .i64 0, .bool false, .slice none 0 0, .int .i64 0, .int .i64 0, .int .i64 0, .int .i64 0, .int .i64 0, .int .i64 0]
set_option maxRecDepth 100000 in
set_option maxHeartbeats 4000000 in
theorem part_any (p : Prt) (po : Option Addr) (pc : Nat) (hl : p.props.length ≤ 1000000) (W : World) (hi : IsL 2 ElPrp W po p.props) :
    Calls Try.prog 33 #[.agg (ptC p (.slice po p.props.length pc)).toArray] W fun e w' => ∃ qo qc css, e = .returned (.agg (ptC p (.slice qo p.props.length qc)).toArray) ∧ w'.ownsRow W.heap.size 80 2 (.slice qo p.props.length qc) p.props.length css.flatten ∧ Says 2 ElPrp w' css p.props ∧ Below W.heap.size W w' := by
  obtain ⟨s0, s1, s2, s3, z4, z5, b6, ps, l0, l1, l2, l3, l4, l5⟩ := p
  unfold ptC
  dsimp only at hl hi ⊢
  have HC := Lib.hid (fun (V : World) (hV : Below W.heap.size W V) => clone_prp po ps pc hl V (hi.below stPrp hV))
  clear hi
  obtain ⟨n, Hn⟩ : ∃ n, Hid (n = ps.length) := ⟨_, Lib.hid rfl⟩
  rw [← Hn.out] at HC ⊢
  obtain ⟨N, HN⟩ : ∃ N, Hid (N = W.heap.size) := ⟨_, Lib.hid rfl⟩
  obtain ⟨V, HV⟩ : ∃ w, Hid (w = (W.alloc (.cells #[.string s0, .string s1, .string s2, .string s3, .int .i64 z4, .int .i64 z5, .bool b6, .slice po n pc, .int .i64 l0, .int .i64 l1, .int .i64 l2, .int .i64 l3, .int .i64 l4, .int .i64 l5] 45)).alloc (.cells zPart.toArray 45)) := ⟨_, Lib.hid rfl⟩
  have HB : Hid (Below W.heap.size W V) := Lib.hid (by rw [HV.out]; exact below_alloc ((Below.refl _ _).alloc (Nat.le_refl _) _) _)
  have HA : Hid (Whole V N 45 #[.string s0, .string s1, .string s2, .string s3, .int .i64 z4, .int .i64 z5, .bool b6, .slice po n pc, .int .i64 l0, .int .i64 l1, .int .i64 l2, .int .i64 l3, .int .i64 l4, .int .i64 l5]) := Lib.hid (by rw [HV.out, HN.out]; exact whole_belowM (Whole.new _ _ _) ((Below.refl _ _).alloc (Nat.le_refl _) _))
  have HZ : Hid (Whole V (N + 1) 45 zPart.toArray) := Lib.hid (by
    have e : N + 1 = (W.alloc (.cells #[.string s0, .string s1, .string s2, .string s3, .int .i64 z4, .int .i64 z5, .bool b6, .slice po n pc, .int .i64 l0, .int .i64 l1, .int .i64 l2, .int .i64 l3, .int .i64 l4, .int .i64 l5] 45)).heap.size := by rw [size_alloc, HN.out]
    rw [HV.out, e]; exact Whole.new _ _ _)
  unfold zPart at HV
  go_enter Try.func33, Try.ntmps33
  go_wp2_with fail
  rw [← HN.out, ← HV.out]
  refine (HC.out V HB.out).mono ?_
  rintro e w1 ⟨qo, qc, css, rfl, hq, hs, hb⟩
  have HQ := Lib.hid hq
  have HS := Lib.hid hs
  have HA1 := Lib.hid (whole_belowM HA.out hb)
  have HZ1 := Lib.hid (whole_belowM HZ.out hb)
  have HB1 := Lib.hid (below_step HB.out hb)
  clear hq hs hb
  obtain ⟨w2, Hw2⟩ : ∃ w, Hid (w = w1.setCell ⟨N, 7, none⟩ (.slice qo n qc)) := ⟨_, Lib.hid rfl⟩
  have HA2 : Hid (Whole w2 N 45 [.string s0, .string s1, .string s2, .string s3, .int .i64 z4, .int .i64 z5, .bool b6, .slice qo n qc, .int .i64 l0, .int .i64 l1, .int .i64 l2, .int .i64 l3, .int .i64 l4, .int .i64 l5].toArray) := Lib.hid (by rw [Hw2.out]; exact HA1.out.set 7 (.slice qo n qc))
  have HZ2 : Hid (Whole w2 (N + 1) 45 zPart.toArray) := Lib.hid (by rw [Hw2.out]; exact HZ1.out.far (p := ⟨N, 7, none⟩) (by simp) (.slice qo n qc))
  have HG2 : Hid (w1.grownBy w2 (some N)) := Lib.hid (by rw [Hw2.out]; exact ⟨rfl, rfl, rfl, by simp, fun j _ hj => Below.heap_setCell _ _ _ _ (fun e => hj (by rw [e]))⟩)
  have c7 := HA1.out.cell 7
  have f7 := HA1.out.frozen 7
  have hone : (#[.string s0, .string s1, .string s2, .string s3, .int .i64 z4, .int .i64 z5, .bool b6, .slice qo n qc, .int .i64 l0, .int .i64 l1, .int .i64 l2, .int .i64 l3, .int .i64 l4, .int .i64 l5] : Array Value).all (·.oneCell') = true := by simp [Value.oneCell']
  have hsz : (Try.prog.info? 45).map (·.size) = some 14 := by kernel_rfl
  have Hone := Lib.hid hone
  have Hsz := Lib.hid hsz
  clear hone hsz
  go_wp2_with (first
    | (with_reducible show wpList _ _ _ (Oper.mk _ (Op.load 45 _) _ _ _ _ :: _) _ _; rw [← Hw2.out]; refine wpList_load_mid rfl _ _ rfl N 0 rfl _ _ HA2.out.range Try.underlying45 rfl (Hsz.out.trans rfl) ?_)
    | (with_reducible show wpList _ _ _ (Oper.mk _ (Op.store 45 _ _) _ _ _ _ :: _) _ _; refine Hid.out ?_))
  refine Lib.hid ?_
  refine wpList_store_whole rfl _ _ _ rfl (N + 1) _ _ _ rfl rfl HZ2.out (Hsz.out.trans rfl) rfl Hone.out ?_
  intro w3 hw3 hg3 _
  have HW3 := Lib.hid hw3
  have HB3 : Hid (Below W.heap.size W w3) := Lib.hid (by
    have h1 : Below W.heap.size W w2 := HB1.out.grown HG2.out HB1.out.size (fun y e => by cases e; rw [HN.out]; exact Nat.le_refl _)
    exact h1.grown hg3 h1.size (fun y e => by cases e; rw [HN.out]; omega))
  have HQ3 : Hid (w3.ownsRow W.heap.size 80 2 (.slice qo n qc) n css.flatten) := Lib.hid (owns_baseM (owns_other (owns_other HQ.out HA1.out (by decide) HG2.out) HZ2.out (by decide) hg3) HB.out.size)
  clear hw3 hg3
  go_wp2_with fail
  exact bodyPost_ret (results_one rfl Try.underlying45 rfl _ _ (N + 1) _ (Hsz.out.trans rfl) HW3.out rfl) rfl ⟨_, _, css, rfl, HQ3.out, ⟨HS.out.len, HS.out.size, HS.out.el⟩, HB3.out⟩

theorem ptC_len (p : Prt) (v : Value) : (ptC p v).length = 14 := rfl
theorem ptC_one (p : Prt) (qo : Option Addr) (n qc : Nat) : (ptC p (.slice qo n qc)).toArray.all (·.oneCell') = true := by simp [ptC, Value.oneCell']
theorem part_size : (Try.prog.info? 45).map (·.size) = some 14 := by kernel_rfl

set_option maxRecDepth 100000 in
set_option maxHeartbeats 4000000 in
theorem find_any (so : Option Addr) (s : List Prt) (sc : Nat) (part : ByteArray) (hl : s.length ≤ 9223372036854775807) (hp : ∀ p ∈ s, p.props.length ≤ 1000000) (W : World) (hi : IsL 14 ElPrt W so s) :
    Calls Try.prog 17 #[.agg #[.slice so s.length sc], .string part] W fun e w' => ∃ qo qc, e = .returned (.tuple #[.agg (ptC (Con.got s part) (.slice qo (Con.got s part).props.length qc)).toArray, .bool (Con.find s part).isSome]) ∧ IsL 2 ElPrp w' qo (Con.got s part).props ∧ Below W.heap.size W w' := by
  have HI := Lib.hid hi
  have HP := Lib.hid hp
  clear hi hp
  obtain ⟨n, Hn⟩ : ∃ n, Hid (n = s.length) := ⟨_, Lib.hid rfl⟩
  rw [← Hn.out]
  rw [← Hn.out] at hl
  obtain ⟨G, HG⟩ : ∃ G, Hid (G = Con.got s part) := ⟨_, Lib.hid rfl⟩
  obtain ⟨fb, HF⟩ : ∃ b, Hid (b = (Con.find s part).isSome) := ⟨_, Lib.hid rfl⟩
  rw [← HG.out, ← HF.out]
  obtain ⟨N, HN⟩ : ∃ N, Hid (N = W.heap.size) := ⟨_, Lib.hid rfl⟩
  obtain ⟨V, HV⟩ : ∃ w, Hid (w = (W.alloc (.cells #[.slice so n sc] 28)).alloc (.cells zPart.toArray 45)) := ⟨_, Lib.hid rfl⟩
  have HB : Hid (Below W.heap.size W V) := Lib.hid (by rw [HV.out]; exact below_alloc ((Below.refl _ _).alloc (Nat.le_refl _) _) _)
  have HA : Hid (Whole V N 28 #[.slice so n sc]) := Lib.hid (by rw [HV.out, HN.out]; exact whole_belowM (Whole.new _ _ _) ((Below.refl _ _).alloc (Nat.le_refl _) _))
  have HZ : Hid (Whole V (N + 1) 45 zPart.toArray) := Lib.hid (by
    have e : N + 1 = (W.alloc (.cells #[.slice so n sc] 28)).heap.size := by rw [size_alloc, HN.out]
    rw [HV.out, e]; exact Whole.new _ _ _)
  unfold zPart at HV
  go_enter Try.func17, Try.ntmps17
  go_wp2_with fail
  rw [← HN.out, ← HV.out]
  go_loopw [11] (fun i wr => ∃ k : Nat, k ≤ n ∧ i = .int .i64 k ∧ Hid (Below V.heap.size V wr ∧ (s.take k).any (fun p => decide (p.name = part)) = false)) (fun i _ => n - (intOf i).toNat)
  case atStart => exact ⟨0, Nat.zero_le _, by go_num, Lib.hid ⟨Below.refl _ _, rfl⟩⟩
  case round =>
    obtain ⟨k, hk, rfl, HR⟩ := hrel
    have HBr := Lib.hid (below_step HB.out HR.out.1)
    have HZr := Lib.hid (whole_belowM HZ.out HR.out.1)
    by_cases hkn : k < n
    · have hd : decide ((k : Int) < n) = true := decide_eq_true (by omega)
      have hb0 : (0 : Int) ≤ k := by omega
      have hb1 : (k : Int) < n := by omega
      have hkl : k < s.length := by rw [← Hn.out]; exact hkn
      obtain ⟨bk, off, cs, rfl, hbk, hrg, po, pc, rfl, hpr, hp9⟩ := HI.out.at hkl
      obtain ⟨p, Hp⟩ : ∃ m, Hid (m = s[k]) := ⟨_, Lib.hid rfl⟩
      rw [← Hp.out] at hrg hpr hp9
      have HRg := Lib.hid (rangeB hrg hbk HBr.out)
      have hpl : p.props.length ≤ 1000000 := by rw [Hp.out]; exact HP.out _ (List.getElem_mem hkl)
      have HPr := Lib.hid (hpr.below stPrp HBr.out)
      obtain ⟨pn, Hpn⟩ : ∃ m, Hid (m = p.props.length) := ⟨_, Lib.hid rfl⟩
      rw [← Hpn.out] at HRg
      have HOne := Lib.hid (ptC_one p po pn pc)
      have HSz := Lib.hid part_size
      obtain ⟨U, HU⟩ : ∃ w, Hid (w = wr.alloc (.cells (ptC p (.slice po pn pc)).toArray 45)) := ⟨_, Lib.hid rfl⟩
      have HWU : Hid (Whole U wr.heap.size 45 (ptC p (.slice po pn pc)).toArray) := Lib.hid (by rw [HU.out]; exact Whole.new _ _ _)
      have HBU : Hid (Below wr.heap.size wr U) := Lib.hid (by rw [HU.out]; exact (Below.refl _ _).alloc (Nat.le_refl _) _)
      have HC := Lib.hid (part_any p po pc hpl U (HPr.out.below stPrp HBU.out))
      rw [← Hpn.out] at HC
      clear hrg hpr hp9 hpl
      go_wp2_with (first
        | (with_reducible show wpList _ _ _ (Oper.mk _ (Op.load 45 _) _ _ _ _ :: _) _ _; refine wpList_load_mid rfl _ _ rfl bk (off + k * 14) rfl _ _ HRg.out Try.underlying45 rfl (HSz.out.trans rfl) ?_)
        | (with_reducible show wpList _ _ _ (Oper.mk _ (Op.store 45 _ _) _ _ _ _ :: _) _ _; refine Hid.out ?_))
      refine Lib.hid ?_
      refine wpList_store_new rfl _ _ _ rfl _ (ptC p (.slice po pn pc)).toArray rfl rfl (HSz.out.trans rfl) rfl HOne.out ?_
      rw [← HU.out]
      obtain ⟨g, Hg⟩ : ∃ g, Hid (g = wr.heap.size) := ⟨_, Lib.hid rfl⟩
      rw [← Hg.out] at HWU ⊢
      obtain ⟨pn0, Hpn0⟩ : ∃ m, Hid (m = p.name) := ⟨_, Lib.hid rfl⟩
      have u0 : U.cell? ⟨g, 0, none⟩ = some (.string pn0) := by rw [Hpn0.out]; exact HWU.out.cell 0
      obtain ⟨b, eb⟩ : ∃ b, (pn0.toList == part.toList) = b := ⟨_, rfl⟩
      have Heb : Hid (decide (p.name = part) = b) := Lib.hid (by rw [← Con.eq_list, ← Hpn0.out]; exact eb)
      have HZU := Lib.hid (whole_belowM HZr.out HBU.out)
      have HBVU := Lib.hid (below_step HR.out.1 HBU.out)
      cases b with
      | true =>
        have hnm : p.name = part := of_decide_eq_true Heb.out
        have hfd : Con.find s part = some p := by rw [Hp.out]; exact Con.find_here hkl HR.out.2 (by rw [← Hp.out]; exact hnm)
        obtain rfl : G = p := by rw [HG.out]; unfold Con.got; rw [hfd]; rfl
        obtain rfl : fb = true := by rw [HF.out, hfd]; rfl
        clear hnm hfd
        go_wp2_with (first
          | (with_reducible show wpList _ _ _ (Oper.mk _ (Op.load 45 _) _ _ _ _ :: _) _ _; refine wpList_load_mid rfl _ _ rfl g 0 rfl _ _ HWU.out.range Try.underlying45 rfl (HSz.out.trans rfl) ?_))
        refine HC.out.mono ?_
        rintro e w1 ⟨qo, qc, css, rfl, hq, hs, hb⟩
        have HQ := Lib.hid hq
        have HS := Lib.hid hs
        have HZ1 := Lib.hid (whole_belowM HZU.out hb)
        have HB1 := Lib.hid (below_step HBVU.out hb)
        have HOne1 := Lib.hid (ptC_one G qo pn qc)
        clear hq hs hb
        go_wp2_with (first
          | (with_reducible show wpList _ _ _ (Oper.mk _ (Op.store 45 _ _) _ _ _ _ :: _) _ _; refine Hid.out ?_))
        refine Lib.hid ?_
        refine wpList_store_whole rfl _ _ _ rfl (N + 1) _ _ _ rfl rfl HZ1.out (HSz.out.trans rfl) rfl HOne1.out ?_
        intro w3 hw3 hg3 _
        have HW3 := Lib.hid hw3
        have HB3 : Hid (Below W.heap.size W w3) := Lib.hid ((below_step HB.out HB1.out).grown hg3 (below_step HB.out HB1.out).size (fun y e => by cases e; rw [HN.out]; omega))
        have HQ3 : Hid (IsL 2 ElPrp w3 qo G.props) := Lib.hid (by
          have h1 := owns_other HQ.out HZ1.out (by decide) hg3
          exact Says.row ⟨HS.out.len, HS.out.size, HS.out.el⟩ h1 Hpn.out)
        clear hw3 hg3
        go_wp2_with fail
        exact bodyPost_ret (results_pair rfl Try.underlying45 rfl _ _ (N + 1) _ (HSz.out.trans rfl) HW3.out rfl) rfl ⟨qo, qc, by rw [← Hpn.out]; rfl, HQ3.out, HB3.out⟩
      | false =>
        have HN2 := Lib.hid (Con.some_next (q := fun p : Prt => decide (p.name = part)) hkl HR.out.2 (by rw [← Hp.out]; exact Heb.out))
        go_wp2_with fail
        go_round
        case rel => exact ⟨k + 1, by omega, by go_num, Lib.hid ⟨HBVU.out, HN2.out⟩⟩
        case measure => simp [intOf]; omega
    · obtain rfl : k = n := by omega
      have hd : decide ((k : Int) < k) = false := decide_eq_false (by omega)
      have hfd : Con.find s part = none := Con.find_not (Con.some_end (by have := HR.out.2; rwa [Hn.out] at this))
      obtain rfl : G = Con.noPart := by rw [HG.out]; unfold Con.got; rw [hfd]; rfl
      obtain rfl : fb = false := by rw [HF.out, hfd]; rfl
      have HSz := Lib.hid part_size
      have HOne1 := Lib.hid (ptC_one Con.noPart none 0 0)
      clear hfd
      go_wp2_with (first
        | (with_reducible show wpList _ _ _ (Oper.mk _ (Op.store 45 _ _) _ _ _ _ :: _) _ _; refine Hid.out ?_))
      refine Lib.hid ?_
      refine wpList_store_whole rfl _ _ _ rfl (N + 1) _ _ (ptC Con.noPart (.slice none 0 0)).toArray rfl rfl HZr.out (HSz.out.trans rfl) rfl HOne1.out ?_
      intro w3 hw3 hg3 _
      have HW3 := Lib.hid hw3
      have HB3 : Hid (Below W.heap.size W w3) := Lib.hid (HBr.out.grown hg3 HBr.out.size (fun y e => by cases e; rw [HN.out]; omega))
      clear hw3 hg3
      go_wp2_with fail
      exact bodyPost_ret (results_pair rfl Try.underlying45 rfl _ _ (N + 1) _ (HSz.out.trans rfl) HW3.out rfl) rfl ⟨none, 0, rfl, IsL.nil, HB3.out⟩
end Go.Proofs.Ytapjnbofhdljfaa
