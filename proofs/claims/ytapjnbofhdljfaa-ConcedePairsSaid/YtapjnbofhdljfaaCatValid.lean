/- Valid catalogs: what a true answer says. -/
import Derived.Test.YtapjnbofhdljfaaConMath
import Derived.Test.YtapjnbofhdljfaaMemCopy
import Derived.Test.YtapjnbofhdljfaaMapBool
import Derived.Test.YtapjnbofhdljfaaLexName
namespace Go.Proofs.Ytapjnbofhdljfaa
open Go.RowKit Go.Maps Go.WideMaps
open Cat

/-- No string is longer than a string may be. -/
def SzSlt (s : Slt) : Prop := s.name.size ≤ 9223372036854775807 ∧ ∀ k ∈ s.kinds, k.size ≤ 9223372036854775807
def SzKnd (k : Knd) : Prop := k.name.size ≤ 9223372036854775807 ∧ ∀ s ∈ k.slots, SzSlt s
/-- The slots of a kind have names. -/
def NmSlots (l : List Slt) : Prop := ∀ s ∈ l, s.name ≠ Con.empty
theorem name_ne {s : ByteArray} (h : Lex.nameB s.data.toList = true) : s ≠ Con.empty := fun e => by
  subst e
  exact absurd h (by decide)
theorem nm_next {l : List Slt} {k : Nat} (hk : k < l.length) (h : ∀ s ∈ l.take k, s.name ≠ Con.empty) (hq : l[k].name ≠ Con.empty) : ∀ s ∈ l.take (k + 1), s.name ≠ Con.empty := fun s hs => by
  rw [← List.take_append_getElem hk] at hs
  rcases List.mem_append.1 hs with hs | hs
  · exact h s hs
  · rw [List.mem_singleton.1 hs]; exact hq

theorem strs_at {W : World} {ao : Option Addr} {ss : List ByteArray} (h : IsStrs W ao ss) {k : Nat} (hk : k < ss.length) : ∃ bk off, ao = some ⟨bk, off, none⟩ ∧ bk < W.heap.size ∧ W.cell? ⟨bk, off + k, none⟩ = some (.string ss[k]) := by
  rcases h with h | ⟨bk, off, h1, h2, h3⟩
  · subst h; simp at hk
  · exact ⟨bk, off, h1, h2, h3 k hk⟩
set_option maxRecDepth 100000 in
set_option maxHeartbeats 4000000 in
theorem slots_any (so : Option Addr) (l : List Slt) (sc vb vn : Nat) (vf : Value → Option Bool) (hl : l.length ≤ 9223372036854775807) (hsz : ∀ s ∈ l, SzSlt s) (W : World) (hi : IsL 3 ElSlt W so l) (hv : BMap Try.prog 9 W vb vn vf) :
    Calls Try.prog 43 #[.slice so l.length sc, .map (some vb)] W fun e w' => ∃ b, e = .returned (.bool b) ∧ (b = true → NmSlots l) ∧ Below W.heap.size W w' := by
  have HI := Lib.hid hi
  have HV := Lib.hid hv
  have HS := Lib.hid hsz
  have HZ := Lib.hid zero_bool
  have HKd := Lib.hid str_keys
  have HMk := Lib.hid (BMap.made Try.prog 9 W)
  clear hi hv hsz
  obtain ⟨n, Hn⟩ : ∃ n, Hid (n = l.length) := ⟨_, Lib.hid rfl⟩
  rw [← Hn.out]
  rw [← Hn.out] at hl
  obtain ⟨N, HN⟩ : ∃ N, Hid (N = W.heap.size) := ⟨_, Lib.hid rfl⟩
  obtain ⟨V, HVe⟩ : ∃ w, Hid (w = W.alloc (.map #[] 0)) := ⟨_, Lib.hid rfl⟩
  have HB : Hid (Below W.heap.size W V) := Lib.hid (by rw [HVe.out]; exact (Below.refl _ _).alloc (Nat.le_refl _) _)
  rw [← HVe.out, ← HN.out] at HMk
  have hmm := @run_makeMap Try.prog
  go_enter Try.func43, Try.ntmps43
  by_cases h12 : 12 < n
  · have d1 : decide ((12 : Int) < (n : Int)) = true := decide_eq_true (by omega)
    go_wp2_with fail
    go_ret
    exact ⟨false, rfl, by simp, Below.refl _ _⟩
  have d1 : decide ((12 : Int) < (n : Int)) = false := decide_eq_false (by omega)
  go_wp2_with fail
  rw [← HN.out, ← HVe.out]
  go_loopw [19] (fun i wr => ∃ k : Nat, k ≤ n ∧ i = .int .i64 k ∧ Hid (Below W.heap.size W wr ∧ (∃ f, BMap Try.prog 9 wr N k f) ∧ ∀ s ∈ l.take k, s.name ≠ Con.empty)) (fun i _ => n - (intOf i).toNat)
  case atStart => exact ⟨0, Nat.zero_le _, by go_num, Lib.hid ⟨HB.out, ⟨_, HMk.out⟩, by simp⟩⟩
  case round =>
    obtain ⟨k, hk, rfl, HR⟩ := hrel
    by_cases hkn : k < n
    · have hd : decide ((k : Int) < n) = true := decide_eq_true (by omega)
      have hb0 : (0 : Int) ≤ k := by omega
      have hb1 : (k : Int) < n := by omega
      have hkl : k < l.length := by rw [← Hn.out]; exact hkn
      obtain ⟨bk, off, cs, rfl, hbk, hrg, ko, kc, rfl, hks, hk1, hk2⟩ := HI.out.at hkl
      obtain ⟨p, Hp⟩ : ∃ m, Hid (m = l[k]) := ⟨_, Lib.hid rfl⟩
      have hpz : SzSlt p := by rw [Hp.out]; exact HS.out _ (List.getElem_mem hkl)
      rw [← Hp.out] at hrg hks hk1
      have hrg := rangeB hrg hbk HR.out.1
      have c0 := hrg 0 _ rfl
      have c1 := hrg 1 _ rfl
      have c2 := hrg 2 _ rfl
      rw [Nat.add_zero] at c0
      obtain ⟨m, Hm⟩ : ∃ m, Hid (m = p.kinds.length) := ⟨_, Lib.hid rfl⟩
      rw [← Hm.out] at c1 hk1
      obtain ⟨pn, Hpn⟩ : ∃ m, Hid (m = p.name) := ⟨_, Lib.hid rfl⟩
      rw [← Hpn.out] at c0
      obtain ⟨pz, Hpz⟩ : ∃ m, Hid (m = p.normal) := ⟨_, Lib.hid rfl⟩
      rw [← Hpz.out] at c2
      obtain ⟨U, HU⟩ : ∃ w, Hid (w = wr.alloc (.cells #[.string pn, .slice ko m kc, .int .i64 pz] 74)) := ⟨_, Lib.hid rfl⟩
      have HBU : Hid (Below wr.heap.size wr U) := Lib.hid (by rw [HU.out]; exact (Below.refl _ _).alloc (Nat.le_refl _) _)
      have HBWU := Lib.hid (below_step HR.out.1 HBU.out)
      obtain ⟨g, Hg⟩ : ∃ g, Hid (g = wr.heap.size) := ⟨_, Lib.hid rfl⟩
      have HWU : Hid (Whole U g 74 #[.string pn, .slice ko m kc, .int .i64 pz]) := Lib.hid (by rw [HU.out, Hg.out]; exact Whole.new _ _ _)
      have HKs := Lib.hid hks
      have HPZ := Lib.hid hpz
      have HK1 := Lib.hid hk1
      obtain ⟨f, hf⟩ := HR.out.2.1
      have HMU : Hid (BMap Try.prog 9 U N k f) := Lib.hid (hf.below HBU.out hf.lt)
      have hkey : keyOf Try.prog 9 (.string pn) = some (.string pn.data.toList) := str_key (by rw [Hpn.out]; exact hpz.1)
      have HKey := Lib.hid hkey
      have hlk := HMU.out.look HKd.out Try.underlying86 (HZ.out U) hkey
      have HNm := Lib.hid (name_wide pn (by rw [Hpn.out]; exact hpz.1) U)
      have u0 := HWU.out.cell 0
      have u1 := HWU.out.cell 1
      have u2 := HWU.out.cell 2
      have hsize : k < maxLen := by unfold maxLen; omega
      have Hsize := Lib.hid hsize
      clear hrg hks hpz hf hkey hk1 hsize
      obtain ⟨b1, eb1⟩ : ∃ b, (f (.string pn)).getD false = b := ⟨_, rfl⟩
      rw [eb1, HU.out] at hlk
      cases b1 with
      | true =>
        go_wp2_with fail
        rw [← HU.out]
        go_ret
        exact ⟨false, rfl, by simp, HBWU.out⟩
      | false =>
        go_wp2_with fail
        rw [← HU.out, ← Hg.out]
        clear hlk eb1
        refine HNm.out.mono ?_
        rintro e w' ⟨rfl, rfl⟩
        cases hnb : Lex.nameB pn.data.toList with
        | false =>
          go_wp2_with fail
          go_ret
          exact ⟨false, rfl, by simp, HBWU.out⟩
        | true =>
          have HNe := Lib.hid (name_ne hnb)
          clear hnb
          by_cases hz1 : pz < 1
          · have e1 : decide (pz < 1) = true := decide_eq_true hz1
            clear hz1
            go_wp2_with fail
            go_ret
            exact ⟨false, rfl, by simp, HBWU.out⟩
          have e1 : decide (pz < 1) = false := decide_eq_false hz1
          clear hz1
          by_cases hz2 : (m : Int) < pz
          · have e2 : decide ((m : Int) < pz) = true := decide_eq_true hz2
            clear hz2
            go_wp2_with fail
            go_ret
            exact ⟨false, rfl, by simp, HBWU.out⟩
          have e2 : decide ((m : Int) < pz) = false := decide_eq_false hz2
          clear hz2
          obtain ⟨w3, hrun3, hm3, hg3⟩ := HMU.out.put HKd.out Try.underlying86 Hsize.out HKey.out true
          have HM3 := Lib.hid hm3
          have HB3 : Hid (Below W.heap.size W w3) := Lib.hid (HBWU.out.grown hg3 HBWU.out.size (fun y e => by cases e; rw [HN.out]; exact Nat.le_refl _))
          have HWU3 : Hid (Whole w3 g 74 #[.string pn, .slice ko m kc, .int .i64 pz]) := Lib.hid ((hg3.block g HWU.out.lt (by intro e; cases e; have h1 := HMU.out.lt; have h2 := HR.out.2.1.choose_spec.lt; have h3 := Hg.out; omega)).trans HWU.out)
          clear hm3 hg3
          obtain ⟨X, HX⟩ : ∃ w, Hid (w = w3.alloc (.map #[] 0)) := ⟨_, Lib.hid rfl⟩
          have HBX : Hid (Below W.heap.size W X) := Lib.hid (by rw [HX.out]; exact below_alloc HB3.out _)
          have HB3X : Hid (Below w3.heap.size w3 X) := Lib.hid (by rw [HX.out]; exact (Below.refl _ _).alloc (Nat.le_refl _) _)
          have HWX : Hid (Whole X g 74 #[.string pn, .slice ko m kc, .int .i64 pz]) := Lib.hid (whole_belowM HWU3.out HB3X.out)
          have HM3X := Lib.hid (HM3.out.below HB3X.out HM3.out.lt)
          obtain ⟨M, HMn⟩ : ∃ g, Hid (g = w3.heap.size) := ⟨_, Lib.hid rfl⟩
          have HMX : Hid (BMap Try.prog 9 X M 0 (fun _ => none)) := Lib.hid (by rw [HX.out, HMn.out]; exact BMap.made _ _ _)
          have HNlt : Hid (N < X.heap.size) := Lib.hid HM3X.out.lt
          have t1 : X.cell? ⟨g, 1, none⟩ = some (.slice ko m kc) := HWX.out.cell 1
          have hX := HX.out.symm
          go_wp2_with (first
            | (with_reducible show wpList _ _ _ (Oper.mk _ (Op.load 69 _) _ _ _ _ :: _) _ _; rw [hX]))
          clear hX
          rw [← HMn.out]
          go_loopw [53] (fun i wr => ∃ j : Nat, j ≤ m ∧ i = .int .i64 j ∧ Hid (Below w3.heap.size w3 wr ∧ (∃ f, BMap Try.prog 9 wr M j f))) (fun i _ => m - (intOf i).toNat)
          case atStart => exact ⟨0, Nat.zero_le _, by go_num, Lib.hid ⟨HB3X.out, ⟨_, HMX.out⟩⟩⟩
          case round =>
            obtain ⟨j, hj, rfl, HJ⟩ := hrel
            have HBj := Lib.hid (below_step HB3.out HJ.out.1)
            by_cases hjm : j < m
            · have hd2 : decide ((j : Int) < m) = true := decide_eq_true (by omega)
              have hb2 : (0 : Int) ≤ j := by omega
              have hb3 : (j : Int) < m := by omega
              have hjl : j < p.kinds.length := by rw [← Hm.out]; exact hjm
              obtain ⟨bs, os, rfl, hbs, hcs⟩ := strs_at (HKs.out.below HBj.out) hjl
              obtain ⟨x, Hx⟩ : ∃ x, Hid (x = p.kinds[j]) := ⟨_, Lib.hid rfl⟩
              rw [← Hx.out] at hcs
              have hxk : keyOf Try.prog 9 (.string x) = some (.string x.data.toList) := str_key (by rw [Hx.out]; exact HPZ.out.2 _ (List.getElem_mem hjl))
              have HXk := Lib.hid hxk
              have hl1 := (HV.out.below HBj.out HV.out.lt).look_ok HKd.out Try.underlying86 (HZ.out wr) hxk
              obtain ⟨f2, hf2⟩ := HJ.out.2
              have HF2 := Lib.hid hf2
              have hl2 := hf2.look HKd.out Try.underlying86 (HZ.out wr) hxk
              have hjs : j < maxLen := by unfold maxLen; have := HK1.out; omega
              have Hjs := Lib.hid hjs
              clear hxk hf2 hjs hbs
              obtain ⟨x1, e1⟩ : ∃ b, (vf (.string x)).getD false = b := ⟨_, rfl⟩
              obtain ⟨x2, e2⟩ : ∃ b, (vf (.string x)).isSome = b := ⟨_, rfl⟩
              obtain ⟨x3, e3⟩ : ∃ b, (f2 (.string x)).getD false = b := ⟨_, rfl⟩
              rw [e1, e2] at hl1
              rw [e3] at hl2
              clear e1 e2 e3
              cases x3 with
              | true =>
                go_wp2_with fail
                go_ret
                exact ⟨false, rfl, by simp, HBj.out⟩
              | false =>
              cases x2 with
              | false =>
                go_wp2_with fail
                go_ret
                exact ⟨false, rfl, by simp, HBj.out⟩
              | true =>
              cases x1 with
              | true =>
                go_wp2_with fail
                go_ret
                exact ⟨false, rfl, by simp, HBj.out⟩
              | false =>
                obtain ⟨w4, hrun4, hm4, hg4⟩ := HF2.out.put HKd.out Try.underlying86 Hjs.out HXk.out true
                have HM4 := Lib.hid hm4
                have HB4 : Hid (Below w3.heap.size w3 w4) := Lib.hid (HJ.out.1.grown hg4 HJ.out.1.size (fun y e => by cases e; rw [HMn.out]; exact Nat.le_refl _))
                clear hm4 hg4
                have hm9 := HK1.out
                go_wp2_with fail
                go_round
                case rel => exact ⟨j + 1, by omega, by go_num, Lib.hid ⟨HB4.out, ⟨_, HM4.out⟩⟩⟩
                case measure => simp [intOf]; omega
            · obtain rfl : j = m := by omega
              have hd2 : decide ((j : Int) < j) = false := decide_eq_false (by omega)
              have HN2 := Lib.hid (nm_next hkl HR.out.2.2 (by rw [← Hp.out, ← Hpn.out]; exact HNe.out))
              go_wp2_with fail
              go_round
              case rel => exact ⟨k + 1, by omega, by go_num, Lib.hid ⟨HBj.out, ⟨_, HM3.out.below HJ.out.1 HM3.out.lt⟩, HN2.out⟩⟩
              case measure => simp [intOf]; omega
    · obtain rfl : k = n := by omega
      have hd : decide ((k : Int) < k) = false := decide_eq_false (by omega)
      have HF := Lib.hid (show NmSlots l from by have := HR.out.2.2; rw [Hn.out, List.take_length] at this; exact this)
      go_wp2_with fail
      go_ret
      exact ⟨true, rfl, fun _ => HF.out, HR.out.1⟩
/-- The slots of all kinds have names. -/
def GoodCat (c : List Knd) : Prop := ∀ k ∈ c, NmSlots k.slots
theorem good_next {c : List Knd} {k : Nat} (hk : k < c.length) (h : GoodCat (c.take k)) (hq : NmSlots c[k].slots) : GoodCat (c.take (k + 1)) := fun x hx => by
  rw [← List.take_append_getElem hk] at hx
  rcases List.mem_append.1 hx with hx | hx
  · exact h x hx
  · rw [List.mem_singleton.1 hx]; exact hq
set_option maxRecDepth 100000 in
set_option maxHeartbeats 4000000 in
theorem catValid_any (co : Option Addr) (c : List Knd) (cc : Nat) (hl : c.length ≤ 9223372036854775807) (hsz : ∀ s ∈ c, SzKnd s) (W : World) (hi : IsL 3 ElKnd W co c) :
    Calls Try.prog 30 #[.agg #[.slice co c.length cc]] W fun e w' => ∃ b, e = .returned (.bool b) ∧ (b = true → GoodCat c) ∧ Below W.heap.size W w' := by
  have HI := Lib.hid hi
  have HS := Lib.hid hsz
  have HZ := Lib.hid zero_bool
  have HKd := Lib.hid str_keys
  clear hi hsz
  obtain ⟨n, Hn⟩ : ∃ n, Hid (n = c.length) := ⟨_, Lib.hid rfl⟩
  rw [← Hn.out]
  rw [← Hn.out] at hl
  obtain ⟨N, HN⟩ : ∃ N, Hid (N = W.heap.size) := ⟨_, Lib.hid rfl⟩
  obtain ⟨V0, HV0⟩ : ∃ w, Hid (w = W.alloc (.cells #[.slice co n cc] 24)) := ⟨_, Lib.hid rfl⟩
  have HB0 : Hid (Below W.heap.size W V0) := Lib.hid (by rw [HV0.out]; exact (Below.refl _ _).alloc (Nat.le_refl _) _)
  obtain ⟨M, HMn⟩ : ∃ N, Hid (N = V0.heap.size) := ⟨_, Lib.hid rfl⟩
  have HMk := Lib.hid (BMap.made Try.prog 9 V0)
  obtain ⟨V, HV⟩ : ∃ w, Hid (w = V0.alloc (.map #[] 0)) := ⟨_, Lib.hid rfl⟩
  have HB : Hid (Below W.heap.size W V) := Lib.hid (by rw [HV.out]; exact below_alloc HB0.out _)
  have HA : Hid (Whole V N 24 #[.slice co n cc]) := Lib.hid (by rw [HV.out, HV0.out, HN.out]; exact whole_belowM (Whole.new _ _ _) ((Below.refl _ _).alloc (Nat.le_refl _) _))
  have hNM : M = N + 1 := by rw [HMn.out, HV0.out, size_alloc, HN.out]
  have HNM := Lib.hid hNM
  clear hNM
  rw [← HV.out, ← HMn.out] at HMk
  have hmm := @run_makeMap Try.prog
  go_enter Try.func30, Try.ntmps30
  by_cases h12 : 60 < n
  · have d1 : decide ((60 : Int) < (n : Int)) = true := decide_eq_true (by omega)
    go_wp2_with fail
    rw [← HV0.out]
    go_ret
    exact ⟨false, rfl, by simp, HB0.out⟩
  have d1 : decide ((60 : Int) < (n : Int)) = false := decide_eq_false (by omega)
  go_wp2_with fail
  rw [← HV0.out, ← HV.out, ← HN.out, ← HNM.out]
  go_loopw [16] (fun i wr => ∃ k : Nat, k ≤ n ∧ i = .int .i64 k ∧ Hid (Below V0.heap.size V0 wr ∧ (∃ f, BMap Try.prog 9 wr M k f) ∧ GoodCat (c.take k))) (fun i _ => n - (intOf i).toNat)
  case atStart => exact ⟨0, Nat.zero_le _, by go_num, Lib.hid ⟨by rw [HV.out]; exact (Below.refl _ _).alloc (Nat.le_refl _) _, ⟨_, HMk.out⟩, by intro x hx; simp at hx⟩⟩
  case round =>
    obtain ⟨k, hk, rfl, HR⟩ := hrel
    have HBr := Lib.hid (below_step HB0.out HR.out.1)
    by_cases hkn : k < n
    · have hd : decide ((k : Int) < n) = true := decide_eq_true (by omega)
      have hb0 : (0 : Int) ≤ k := by omega
      have hb1 : (k : Int) < n := by omega
      have hkl : k < c.length := by rw [← Hn.out]; exact hkn
      obtain ⟨bk, off, cs, rfl, hbk, hrg, so, sc, rfl, hss, hs9⟩ := HI.out.at hkl
      obtain ⟨p, Hp⟩ : ∃ m, Hid (m = c[k]) := ⟨_, Lib.hid rfl⟩
      have hpz : SzKnd p := by rw [Hp.out]; exact HS.out _ (List.getElem_mem hkl)
      rw [← Hp.out] at hrg hss hs9
      have hrg := rangeB hrg hbk HBr.out
      have c0 := hrg 0 _ rfl
      have c1 := hrg 1 _ rfl
      have c2 := hrg 2 _ rfl
      rw [Nat.add_zero] at c0
      obtain ⟨pn, Hpn⟩ : ∃ m, Hid (m = p.name) := ⟨_, Lib.hid rfl⟩
      rw [← Hpn.out] at c0
      obtain ⟨pb, Hpb⟩ : ∃ m, Hid (m = p.vehicle) := ⟨_, Lib.hid rfl⟩
      rw [← Hpb.out] at c1
      obtain ⟨f, hf⟩ := HR.out.2.1
      obtain ⟨U, HU⟩ : ∃ w, Hid (w = wr.alloc (.cells #[.string pn, .bool pb, .slice so p.slots.length sc] 78)) := ⟨_, Lib.hid rfl⟩
      have HBU : Hid (Below wr.heap.size wr U) := Lib.hid (by rw [HU.out]; exact (Below.refl _ _).alloc (Nat.le_refl _) _)
      have HBVU := Lib.hid (below_step HR.out.1 HBU.out)
      have HMU : Hid (BMap Try.prog 9 U M k f) := Lib.hid (hf.below HBU.out hf.lt)
      have HMlt : Hid (M < wr.heap.size) := Lib.hid hf.lt
      have HSl := Lib.hid (slots_any so p.slots sc M k f hs9 hpz.2 U (hss.below stSlt (below_step HBr.out HBU.out)) HMU.out)
      obtain ⟨m, Hm⟩ : ∃ m, Hid (m = p.slots.length) := ⟨_, Lib.hid rfl⟩
      rw [← Hm.out] at c2 hs9 HSl HU
      obtain ⟨g, Hg⟩ : ∃ g, Hid (g = wr.heap.size) := ⟨_, Lib.hid rfl⟩
      have HWU : Hid (Whole U g 78 #[.string pn, .bool pb, .slice so m sc]) := Lib.hid (by rw [HU.out, Hg.out]; exact Whole.new _ _ _)
      have hkey : keyOf Try.prog 9 (.string pn) = some (.string pn.data.toList) := str_key (by rw [Hpn.out]; exact hpz.1)
      have HKey := Lib.hid hkey
      have hlk := HMU.out.look_ok HKd.out Try.underlying86 (HZ.out U) hkey
      have HNm := Lib.hid (name_wide pn (by rw [Hpn.out]; exact hpz.1) U)
      have hsize : k < maxLen := by unfold maxLen; omega
      have Hsize := Lib.hid hsize
      have u0 := HWU.out.cell 0
      have u1 := HWU.out.cell 1
      have u2 := HWU.out.cell 2
      clear hrg hss hpz hf hkey hsize
      obtain ⟨b1, eb1⟩ : ∃ b, (f (.string pn)).getD false = b := ⟨_, rfl⟩
      obtain ⟨b2, eb2⟩ : ∃ b, (f (.string pn)).isSome = b := ⟨_, rfl⟩
      rw [eb1, eb2, HU.out] at hlk
      clear eb1 eb2
      cases b2 with
      | true =>
        go_wp2_with fail
        rw [← HU.out]
        go_ret
        exact ⟨false, rfl, by simp, below_step HB0.out HBVU.out⟩
      | false =>
        go_wp2_with fail
        rw [← HU.out, ← Hg.out]
        clear hlk
        refine HNm.out.mono ?_
        rintro e w' ⟨rfl, rfl⟩
        cases hnb : Lex.nameB pn.data.toList with
        | false =>
          go_wp2_with fail
          go_ret
          exact ⟨false, rfl, by simp, below_step HB0.out HBVU.out⟩
        | true =>
          clear hnb
          go_wp2_with fail
          refine HSl.out.mono ?_
          rintro e w2 ⟨b3, rfl, hb3, hw2⟩
          have HBw := Lib.hid hw2
          have HB2 := Lib.hid (below_step HBVU.out hw2)
          have HGd := Lib.hid hb3
          clear hw2 hb3
          cases b3 with
          | false =>
            go_wp2_with fail
            go_ret
            exact ⟨false, rfl, by simp, below_step HB0.out HB2.out⟩
          | true =>
            have HW2 := Lib.hid (whole_belowM HWU.out HBw.out)
            have q0 : w2.cell? ⟨g, 0, none⟩ = some (.string pn) := HW2.out.cell 0
            have q1 : w2.cell? ⟨g, 1, none⟩ = some (.bool pb) := HW2.out.cell 1
            have HM2 := Lib.hid (HMU.out.below HBw.out HMU.out.lt)
            obtain ⟨w3, hrun3, hm3, hg3⟩ := HM2.out.put HKd.out Try.underlying86 Hsize.out HKey.out pb
            have HM3 := Lib.hid hm3
            have HB3 : Hid (Below V0.heap.size V0 w3) := Lib.hid (HB2.out.grown hg3 HB2.out.size (fun y e => by cases e; rw [HMn.out]; exact Nat.le_refl _))
            have HG3 := Lib.hid (good_next hkl HR.out.2.2 (by rw [← Hp.out]; exact HGd.out rfl))
            clear hm3 hg3
            go_wp2_with fail
            go_round
            case rel => exact ⟨k + 1, by omega, by go_num, Lib.hid ⟨HB3.out, ⟨_, HM3.out⟩, HG3.out⟩⟩
            case measure => simp [intOf]; omega
    · obtain rfl : k = n := by omega
      have hd : decide ((k : Int) < k) = false := decide_eq_false (by omega)
      have HF := Lib.hid (show GoodCat c from by have := HR.out.2.2; rw [Hn.out, List.take_length] at this; exact this)
      go_wp2_with fail
      go_ret
      exact ⟨true, rfl, fun _ => HF.out, HBr.out⟩
end Go.Proofs.Ytapjnbofhdljfaa
