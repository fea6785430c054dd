/- The reference's At, Find, In. -/
import Derived.Test.YtapjnbofhdljfaaConRef
namespace Go.Proofs.Ytapjnbofhdljfaa
open Go.RowKit
open Cat

/-- Where a part is. -/
def AtR (s : List Prt) (n : ByteArray) (W : World) (e : Ending) (w' : World) : Prop :=
  (∃ k, ∃ h : k < s.length, e = .returned (.int .i64 (k : Int)) ∧ Con.find s n = some s[k] ∧ Below W.heap.size W w') ∨ (e = .returned (.int .i64 (-1)) ∧ Con.find s n = none ∧ Below W.heap.size W w')
theorem AtR.here {s : List Prt} {n : ByteArray} {W w' : World} (k : Nat) (h : k < s.length) (hf : Con.find s n = some s[k]) (hb : Below W.heap.size W w') : AtR s n W (.returned (.int .i64 (k : Int))) w' := Or.inl ⟨k, h, rfl, hf, hb⟩
theorem AtR.none {s : List Prt} {n : ByteArray} {W w' : World} (hf : Con.find s n = none) (hb : Below W.heap.size W w') : AtR s n W (.returned (.int .i64 (-1))) w' := Or.inr ⟨rfl, hf, hb⟩
set_option maxRecDepth 100000 in
set_option maxHeartbeats 4000000 in
theorem refAt_any (so : Option Addr) (s : List Prt) (sc : Nat) (part : ByteArray) (hl : s.length ≤ 9223372036854775807) (W : World) (hi : IsL 14 ElPrt W so s) :
    Calls Try.prog 39 #[.agg #[.slice so s.length sc], .string part] W (AtR s part W) := by
  obtain ⟨n, Hn⟩ : ∃ n, Hid (n = s.length) := ⟨_, Lib.hid rfl⟩
  rw [← Hn.out]
  rw [← Hn.out] at hl
  obtain ⟨N, HN⟩ : ∃ N, Hid (N = W.heap.size) := ⟨_, Lib.hid rfl⟩
  obtain ⟨V, HV⟩ : ∃ w, Hid (w = W.alloc (.cells #[.slice so n sc] 28)) := ⟨_, Lib.hid rfl⟩
  have HB : Hid (Below W.heap.size W V) := Lib.hid (by rw [HV.out]; exact (Below.refl _ _).alloc (Nat.le_refl _) _)
  have v0 : V.cell? ⟨N, 0, none⟩ = some (.slice so n sc) := (by rw [HV.out]; exact Whole.newAt _ _ HN.out : Whole V N 28 #[.slice so n sc]).cell 0
  have HI := Lib.hid (hi.below stPrt HB.out)
  clear hi
  go_enter Try.func39, Try.ntmps39
  go_wp2_with fail
  rw [← HN.out, ← HV.out]
  go_loopw [5] (fun i wr => ∃ k : Nat, k ≤ n ∧ i = .int .i64 k ∧ wr = V ∧ Hid ((s.take k).any (fun p => decide (p.name = part)) = false)) (fun i _ => n - (intOf i).toNat)
  case atStart => exact ⟨0, Nat.zero_le _, by go_num, rfl, Lib.hid rfl⟩
  case round =>
    obtain ⟨k, hk, rfl, hw, HR⟩ := hrel
    subst hw
    by_cases hkn : k < n
    · have hd : decide ((k : Int) < n) = true := decide_eq_true (by omega)
      have hb0 : (0 : Int) ≤ k := by omega
      have hb1 : (k : Int) < n := by omega
      have hkl : k < s.length := by rw [← Hn.out]; exact hkn
      obtain ⟨bk, off, rfl, c0, -, -, -⟩ := part_cells HI.out hkl
      obtain ⟨x0, Hx0⟩ : ∃ m, Hid (m = s[k].name) := ⟨_, Lib.hid rfl⟩
      rw [← Hx0.out] at c0
      obtain ⟨b, e1⟩ : ∃ b, (x0.toList == part.toList) = b := ⟨_, rfl⟩
      have Heb : Hid (decide (s[k].name = part) = b) := Lib.hid (by rw [← Con.eq_list, ← Hx0.out]; exact e1)
      cases b with
      | true =>
        have HA := Lib.hid (Con.find_here hkl HR.out (of_decide_eq_true Heb.out))
        go_wp2_with fail
        go_ret
        exact AtR.here k hkl HA.out HB.out
      | false =>
        have HN2 := Lib.hid (Con.some_next (q := fun p : Prt => decide (p.name = part)) hkl HR.out Heb.out)
        go_wp2_with fail
        go_round
        case rel => exact ⟨k + 1, by omega, by go_num, trivial, HN2⟩
        case measure => simp [intOf]; omega
    · obtain rfl : k = n := by omega
      have hd : decide ((k : Int) < k) = false := decide_eq_false (by omega)
      have HA := Lib.hid (Con.find_not (n := part) (Con.some_end (by have := HR.out; rwa [Hn.out] at this)))
      go_wp2_with fail
      go_ret
      exact AtR.none HA.out HB.out

set_option maxRecDepth 100000 in
set_option maxHeartbeats 4000000 in
theorem refFind_any (so : Option Addr) (s : List Prt) (sc : Nat) (part : ByteArray) (hl : s.length ≤ 9223372036854775807) (W : World) (hi : IsL 14 ElPrt W so s) :
    Calls Try.prog 27 #[.agg #[.slice so s.length sc], .string part] W fun e w' => ∃ qo qc, e = .returned (.tuple #[.agg (ptC (Con.got s part) (.slice qo (Con.got s part).props.length qc)).toArray, .bool (Con.find s part).isSome]) ∧ Below W.heap.size W w' := by
  obtain ⟨n, Hn⟩ : ∃ n, Hid (n = s.length) := ⟨_, Lib.hid rfl⟩
  obtain ⟨G, HG⟩ : ∃ G, Hid (G = Con.got s part) := ⟨_, Lib.hid rfl⟩
  obtain ⟨fb, HF⟩ : ∃ b, Hid (b = (Con.find s part).isSome) := ⟨_, Lib.hid rfl⟩
  rw [← HG.out, ← HF.out]
  obtain ⟨N, HN⟩ : ∃ N, Hid (N = W.heap.size) := ⟨_, Lib.hid rfl⟩
  obtain ⟨V, HV⟩ : ∃ w, Hid (w = (W.alloc (.cells #[.slice so n sc] 28)).alloc (.cells zPart.toArray 45)) := ⟨_, Lib.hid rfl⟩
  have HB : Hid (Below W.heap.size W V) := Lib.hid (by rw [HV.out]; exact below_alloc ((Below.refl _ _).alloc (Nat.le_refl _) _) _)
  have HA : Hid (Whole V N 28 #[.slice so n sc]) := Lib.hid (by rw [HV.out]; exact whole_belowM (Whole.newAt _ _ HN.out) ((Below.refl _ _).alloc (Nat.le_refl _) _))
  have HZ : Hid (Whole V (N + 1) 45 zPart.toArray) := Lib.hid (by rw [HV.out]; exact Whole.newAt _ _ (by rw [size_alloc, HN.out]))
  have HAt := Lib.hid (refAt_any so s sc part hl V (hi.below stPrt HB.out))
  have HI := Lib.hid hi
  rw [← Hn.out] at HAt hl ⊢
  clear hi
  unfold zPart at HV
  have v0 : V.cell? ⟨N, 0, none⟩ = some (.slice so n sc) := HA.out.cell 0
  have HSz := Lib.hid part_size
  go_enter Try.func27, Try.ntmps27
  go_wp2_with fail
  rw [← HN.out, ← HV.out]
  refine HAt.out.mono ?_
  rintro e w1 hat
  rcases hat with ⟨k, hkl, rfl, hf, hb⟩ | ⟨rfl, hf, hb⟩
  · have HB1 := Lib.hid (below_step HB.out hb)
    have HZ1 := Lib.hid (whole_belowM HZ.out hb)
    have d0 := (cellB hb HA.out.lt).trans v0
    have hkn : k < n := by rw [Hn.out]; exact hkl
    obtain ⟨bk, off, cs, rfl, hbk, hrg, po, pc, rfl, _, _⟩ := HI.out.at hkl
    have hGk : G = s[k] := by rw [HG.out]; unfold Con.got; rw [hf]; rfl
    obtain rfl : fb = true := by rw [HF.out, hf]; rfl
    rw [← hGk] at hrg
    clear hGk
    obtain ⟨pn, Hpn⟩ : ∃ m, Hid (m = G.props.length) := ⟨_, Lib.hid rfl⟩
    rw [← Hpn.out] at hrg
    have HRg := Lib.hid (rangeB hrg hbk HB1.out)
    have HOne := Lib.hid (ptC_one G po pn pc)
    have hd : decide ((k : Int) < 0) = false := decide_eq_false (by omega)
    have hb0 : (0 : Int) ≤ k := by omega
    have hb1 : (k : Int) < n := by omega
    clear hb hrg hf
    go_wp2_with (first
      | (with_reducible show wpList _ _ _ (Oper.mk _ (Op.load 45 _) _ _ _ _ :: _) _ _; refine Hid.out ?_))
    refine Lib.hid ?_
    refine wpList_load_mid rfl _ _ rfl bk (off + k * 14) rfl _ _ HRg.out Try.underlying45 rfl (HSz.out.trans rfl) ?_
    refine wpList_store_whole rfl _ _ _ rfl (N + 1) _ _ _ rfl rfl HZ1.out (HSz.out.trans rfl) rfl HOne.out ?_
    intro w3 hw3 hg3 _
    have HW3 := Lib.hid hw3
    have HB3 : Hid (Below W.heap.size W w3) := Lib.hid (HB1.out.grown hg3 HB1.out.size (fun y e => by cases e; rw [HN.out]; omega))
    clear hw3 hg3
    go_wp2_with fail
    exact bodyPost_ret (results_pair rfl Try.underlying45 rfl _ _ (N + 1) _ (HSz.out.trans rfl) HW3.out rfl) rfl ⟨po, pc, by rw [← Hpn.out]; rfl, HB3.out⟩
  · have HB1 := Lib.hid (below_step HB.out hb)
    have HZ1 := Lib.hid (whole_belowM HZ.out hb)
    obtain rfl : G = Con.noPart := by rw [HG.out]; unfold Con.got; rw [hf]; rfl
    obtain rfl : fb = false := by rw [HF.out, hf]; rfl
    have HOne := Lib.hid (ptC_one Con.noPart none 0 0)
    clear hb hf
    go_wp2_with (first
      | (with_reducible show wpList _ _ _ (Oper.mk _ (Op.store 45 _ _) _ _ _ _ :: _) _ _; refine Hid.out ?_))
    refine Lib.hid ?_
    refine wpList_store_whole rfl _ _ _ rfl (N + 1) _ _ (ptC Con.noPart (.slice none 0 0)).toArray rfl rfl HZ1.out (HSz.out.trans rfl) rfl HOne.out ?_
    intro w3 hw3 hg3 _
    have HW3 := Lib.hid hw3
    have HB3 : Hid (Below W.heap.size W w3) := Lib.hid (HB1.out.grown hg3 HB1.out.size (fun y e => by cases e; rw [HN.out]; omega))
    clear hw3 hg3
    go_wp2_with fail
    exact bodyPost_ret (results_pair rfl Try.underlying45 rfl _ _ (N + 1) _ (HSz.out.trans rfl) HW3.out rfl) rfl ⟨none, 0, rfl, HB3.out⟩

set_option maxRecDepth 100000 in
set_option maxHeartbeats 4000000 in
theorem refIn_any (ao : Option Addr) (ss : List ByteArray) (c : Nat) (x : ByteArray) (hl : ss.length ≤ 9223372036854775807) (W : World) (h : IsStrs W ao ss) :
    Calls Try.prog 41 #[.slice ao ss.length c, .string x] W fun e w' => e = .returned (.bool (Con.has ss x)) ∧ W = w' := by
  have HI := Lib.hid h
  clear h
  obtain ⟨n, Hn⟩ : ∃ n, Hid (n = ss.length) := ⟨_, Lib.hid rfl⟩
  rw [← Hn.out]
  rw [← Hn.out] at hl
  unfold Con.has
  obtain ⟨u, Hu⟩ : ∃ u, Hid (u = ss.any (fun s => decide (s = x))) := ⟨_, Lib.hid rfl⟩
  rw [← Hu.out]
  go_enter Try.func41, Try.ntmps41
  go_wp2_with fail
  go_loopw [5] (fun i wr => ∃ k : Nat, k ≤ n ∧ i = .int .i64 k ∧ wr = W ∧ Hid ((ss.take k).any (fun s => decide (s = x)) = false)) (fun i _ => n - (intOf i).toNat)
  case atStart => exact ⟨0, Nat.zero_le _, by go_num, rfl, Lib.hid rfl⟩
  case round =>
    obtain ⟨k, hk, rfl, hw, HR⟩ := hrel
    subst hw
    by_cases hkn : k < n
    · have hd : decide ((k : Int) < n) = true := decide_eq_true (by omega)
      have hb0 : (0 : Int) ≤ k := by omega
      have hb1 : (k : Int) < n := by omega
      have hkl : k < ss.length := by rw [← Hn.out]; exact hkn
      rcases HI.out with h | ⟨bk, off, rfl, hbk, hc⟩
      · rw [h] at hkl; simp at hkl
      have c0 := hc k hkl
      obtain ⟨x0, Hx0⟩ : ∃ m, Hid (m = ss[k]) := ⟨_, Lib.hid rfl⟩
      rw [← Hx0.out] at c0
      obtain ⟨b, e1⟩ : ∃ b, (x0.toList == x.toList) = b := ⟨_, rfl⟩
      have Heb : Hid (decide (ss[k] = x) = b) := Lib.hid (by rw [← Con.eq_list, ← Hx0.out]; exact e1)
      clear hc
      cases b with
      | true =>
        have HA : Hid (u = true) := Lib.hid (by rw [Hu.out]; exact Con.some_here hkl Heb.out)
        go_wp2_with fail
        go_ret
        obtain rfl := HA.out
        exact ⟨rfl, rfl⟩
      | false =>
        have HN2 := Lib.hid (Con.some_next (q := fun s : ByteArray => decide (s = x)) hkl HR.out Heb.out)
        go_wp2_with fail
        go_round
        case rel => exact ⟨k + 1, by omega, by go_num, trivial, HN2⟩
        case measure => simp [intOf]; omega
    · obtain rfl : k = n := by omega
      have hd : decide ((k : Int) < k) = false := decide_eq_false (by omega)
      have HA : Hid (u = false) := Lib.hid (by rw [Hu.out]; exact Con.some_end (by have := HR.out; rwa [Hn.out] at this))
      go_wp2_with fail
      go_ret
      obtain rfl := HA.out
      exact ⟨rfl, rfl⟩
end Go.Proofs.Ytapjnbofhdljfaa
