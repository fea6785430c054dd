/- What a slot takes. -/
import Derived.Test.YtapjnbofhdljfaaConMath
import Derived.Test.YtapjnbofhdljfaaMemCopy
import Derived.Test.YtapjnbofhdljfaaShelf
namespace Go.Proofs.Ytapjnbofhdljfaa
open Go.RowKit
open Cat

namespace Con
theorem taken_none {c : List Knd} {kind slot : ByteArray} (h : c.any (fun k => decide (k.name = kind)) = false) : taken c kind slot = ([], 0) := by
  have : (c.find? fun k => decide (k.name = kind)) = none := by
    rw [List.find?_eq_none]; exact fun x hx => List.any_eq_false.1 h x hx
  unfold taken
  rw [this]
theorem find_kind {c : List Knd} {kind : ByteArray} {k : Nat} (hk : k < c.length) (h : (c.take k).any (fun p => decide (p.name = kind)) = false) (hn : c[k].name = kind) : (c.find? fun k => decide (k.name = kind)) = some c[k] := by
  rw [List.find?_eq_some_iff_getElem]
  refine ⟨decide_eq_true hn, k, hk, rfl, fun j hj => ?_⟩
  have := List.any_eq_false.1 h c[j] (by rw [List.mem_take_iff_getElem]; exact ⟨j, by omega, rfl⟩)
  simpa using this
theorem taken_noslot {c : List Knd} {kind slot : ByteArray} {x : Knd} (h1 : (c.find? fun k => decide (k.name = kind)) = some x) (h : x.slots.any (fun k => decide (k.name = slot)) = false) : taken c kind slot = ([], 0) := by
  have : (x.slots.find? fun k => decide (k.name = slot)) = none := by
    rw [List.find?_eq_none]; exact fun x hx => List.any_eq_false.1 h x hx
  unfold taken
  rw [h1]
  dsimp only
  rw [this]
theorem taken_slot {c : List Knd} {kind slot : ByteArray} {x : Knd} {k : Nat} (h1 : (c.find? fun k => decide (k.name = kind)) = some x) (hk : k < x.slots.length) (h : (x.slots.take k).any (fun k => decide (k.name = slot)) = false) (hn : x.slots[k].name = slot) : taken c kind slot = (x.slots[k].kinds, x.slots[k].normal) := by
  have : (x.slots.find? fun k => decide (k.name = slot)) = some x.slots[k] := by
    rw [List.find?_eq_some_iff_getElem]
    refine ⟨decide_eq_true hn, k, hk, rfl, fun j hj => ?_⟩
    have := List.any_eq_false.1 h x.slots[j] (by rw [List.mem_take_iff_getElem]; exact ⟨j, by omega, rfl⟩)
    simpa using this
  unfold taken
  rw [h1]
  dsimp only
  rw [this]
end Con

set_option maxRecDepth 100000 in
set_option maxHeartbeats 4000000 in
theorem taken_any (co : Option Addr) (c : List Knd) (cc : Nat) (kind slot : ByteArray) (hl : c.length ≤ 9223372036854775807) (W : World) (hi : IsL 3 ElKnd W co c) :
    Calls Try.prog 34 #[.agg #[.slice co c.length cc], .string kind, .string slot] W fun e w' => ∃ ko kc, e = .returned (.tuple #[.slice ko (Con.taken c kind slot).1.length kc, .int .i64 (Con.taken c kind slot).2]) ∧ IsStrs w' ko (Con.taken c kind slot).1 ∧ (Con.taken c kind slot).1.length ≤ kc ∧ kc ≤ 9223372036854775807 ∧ Below W.heap.size W w' := by
  have HI := Lib.hid hi
  clear hi
  obtain ⟨n, Hn⟩ : ∃ n, Hid (n = c.length) := ⟨_, Lib.hid rfl⟩
  rw [← Hn.out]
  rw [← Hn.out] at hl
  obtain ⟨T, HT⟩ : ∃ G, Hid (G = Con.taken c kind slot) := ⟨_, Lib.hid rfl⟩
  rw [← HT.out]
  obtain ⟨N, HN⟩ : ∃ N, Hid (N = W.heap.size) := ⟨_, Lib.hid rfl⟩
  obtain ⟨V, HV⟩ : ∃ w, Hid (w = W.alloc (.cells #[.slice co n cc] 24)) := ⟨_, Lib.hid rfl⟩
  have HB : Hid (Below W.heap.size W V) := Lib.hid (by rw [HV.out]; exact (Below.refl _ _).alloc (Nat.le_refl _) _)
  go_enter Try.func34, Try.ntmps34
  go_wp2_with fail
  rw [← HN.out, ← HV.out]
  go_loopw [15] (fun i wr => ∃ k : Nat, k ≤ n ∧ i = .int .i64 k ∧ Hid (Below V.heap.size V wr ∧ (c.take k).any (fun p => decide (p.name = kind)) = false)) (fun i _ => n - (intOf i).toNat)
  case atStart => exact ⟨0, Nat.zero_le _, by go_num, Lib.hid ⟨Below.refl _ _, rfl⟩⟩
  case round =>
    obtain ⟨k, hk, rfl, HR⟩ := hrel
    have HBr := Lib.hid (below_step HB.out HR.out.1)
    by_cases hkn : k < n
    · have hd : decide ((k : Int) < n) = true := decide_eq_true (by omega)
      have hb0 : (0 : Int) ≤ k := by omega
      have hb1 : (k : Int) < n := by omega
      have hkl : k < c.length := by rw [← Hn.out]; exact hkn
      obtain ⟨bk, off, cs, rfl, hbk, hrg, so, sc, rfl, hss, hs9⟩ := HI.out.at hkl
      obtain ⟨p, Hp⟩ : ∃ m, Hid (m = c[k]) := ⟨_, Lib.hid rfl⟩
      rw [← Hp.out] at hrg hss hs9
      have hrg := rangeB hrg hbk HBr.out
      have c0 := hrg 0 _ rfl
      have c1 := hrg 1 _ rfl
      have c2 := hrg 2 _ rfl
      rw [Nat.add_zero] at c0
      obtain ⟨m, Hm⟩ : ∃ m, Hid (m = p.slots.length) := ⟨_, Lib.hid rfl⟩
      rw [← Hm.out] at c2 hs9
      obtain ⟨pn0, Hpn0⟩ : ∃ m, Hid (m = p.name) := ⟨_, Lib.hid rfl⟩
      rw [← Hpn0.out] at c0
      obtain ⟨U, HU⟩ : ∃ w, Hid (w = wr.alloc (.cells #[.string pn0, .bool p.vehicle, .slice so m sc] 78)) := ⟨_, Lib.hid rfl⟩
      have HBU : Hid (Below wr.heap.size wr U) := Lib.hid (by rw [HU.out]; exact (Below.refl _ _).alloc (Nat.le_refl _) _)
      have HBVU := Lib.hid (below_step HR.out.1 HBU.out)
      have HSs := Lib.hid ((hss.below stSlt HBr.out).below stSlt HBU.out)
      obtain ⟨b, eb⟩ : ∃ b, (pn0.toList == kind.toList) = b := ⟨_, rfl⟩
      have Heb : Hid (decide (p.name = kind) = b) := Lib.hid (by rw [← Con.eq_list, ← Hpn0.out]; exact eb)
      clear hrg hss
      cases b with
      | false =>
        have eb2 : (pn0.toList != kind.toList) = true := by rw [bne, eb]; rfl
        have HN2 := Lib.hid (Con.some_next (q := fun p : Knd => decide (p.name = kind)) hkl HR.out.2 (by rw [← Hp.out]; exact Heb.out))
        go_wp2_with fail
        go_round
        case rel => exact ⟨k + 1, by omega, by go_num, Lib.hid ⟨by rw [← HU.out]; exact HBVU.out, HN2.out⟩⟩
        case measure => simp [intOf]; omega
      | true =>
        have eb2 : (pn0.toList != kind.toList) = false := by rw [bne, eb]; rfl
        have HK : Hid ((c.find? fun k => decide (k.name = kind)) = some p) := Lib.hid (by rw [Hp.out]; exact Con.find_kind hkl HR.out.2 (by rw [← Hp.out]; exact of_decide_eq_true Heb.out))
        go_wp2_with fail
        rw [← HU.out]
        go_loopw [26] (fun i ws => ∃ j : Nat, j ≤ m ∧ i = .int .i64 j ∧ Hid (Below U.heap.size U ws ∧ (p.slots.take j).any (fun p => decide (p.name = slot)) = false)) (fun i _ => m - (intOf i).toNat)
        case atStart => exact ⟨0, Nat.zero_le _, by go_num, Lib.hid ⟨Below.refl _ _, rfl⟩⟩
        case round =>
          obtain ⟨j, hj, rfl, HJ⟩ := hrel
          have HBj := Lib.hid (below_step HB.out (below_step HBVU.out HJ.out.1))
          by_cases hjm : j < m
          · have hd2 : decide ((j : Int) < m) = true := decide_eq_true (by omega)
            have hb2 : (0 : Int) ≤ j := by omega
            have hb3 : (j : Int) < m := by omega
            have hjl : j < p.slots.length := by rw [← Hm.out]; exact hjm
            obtain ⟨bs, os, cs, rfl, hbs, hrs, ko, kc, rfl, hks, hk1, hk2⟩ := HSs.out.at hjl
            obtain ⟨x, Hx⟩ : ∃ m, Hid (m = p.slots[j]) := ⟨_, Lib.hid rfl⟩
            rw [← Hx.out] at hrs hks hk1
            have hrs := rangeB hrs hbs HJ.out.1
            have s0 := hrs 0 _ rfl
            have s1 := hrs 1 _ rfl
            have s2 := hrs 2 _ rfl
            rw [Nat.add_zero] at s0
            obtain ⟨xn, Hxn⟩ : ∃ m, Hid (m = x.name) := ⟨_, Lib.hid rfl⟩
            rw [← Hxn.out] at s0
            obtain ⟨kl, Hkl⟩ : ∃ m, Hid (m = x.kinds.length) := ⟨_, Lib.hid rfl⟩
            rw [← Hkl.out] at s1 hk1
            obtain ⟨Y, HY⟩ : ∃ w, Hid (w = wr.alloc (.cells #[.string xn, .slice ko kl kc, .int .i64 x.normal] 74)) := ⟨_, Lib.hid rfl⟩
            have HBY : Hid (Below wr.heap.size wr Y) := Lib.hid (by rw [HY.out]; exact (Below.refl _ _).alloc (Nat.le_refl _) _)
            have HBUY := Lib.hid (below_step HJ.out.1 HBY.out)
            have HKs := Lib.hid (hks.below HBUY.out)
            obtain ⟨b2, eb3⟩ : ∃ b, (xn.toList == slot.toList) = b := ⟨_, rfl⟩
            have Heb3 : Hid (decide (x.name = slot) = b2) := Lib.hid (by rw [← Con.eq_list, ← Hxn.out]; exact eb3)
            clear hrs hks
            cases b2 with
            | false =>
              have HN3 := Lib.hid (Con.some_next (q := fun p : Slt => decide (p.name = slot)) hjl HJ.out.2 (by rw [← Hx.out]; exact Heb3.out))
              go_wp2_with fail
              go_round
              case rel => exact ⟨j + 1, by omega, by go_num, Lib.hid ⟨by rw [← HY.out]; exact HBUY.out, HN3.out⟩⟩
              case measure => simp [intOf]; omega
            | true =>
              have hT : T = (x.kinds, x.normal) := by rw [HT.out, Hx.out]; exact Con.taken_slot HK.out hjl HJ.out.2 (by rw [← Hx.out]; exact of_decide_eq_true Heb3.out)
              have HT2 := Lib.hid hT
              clear hT
              go_wp2_with fail
              rw [← HY.out]
              have HWY : Hid (Whole Y wr.heap.size 74 #[.string xn, .slice ko kl kc, .int .i64 x.normal]) := Lib.hid (by rw [HY.out]; exact Whole.new _ _ _)
              have gy1 : ∀ X : Grown Y, X.w.cell? ⟨wr.heap.size, 1, none⟩ = some (.slice ko kl kc) := fun X => by rw [X.cell HWY.out.lt]; exact HWY.out.cell 1
              have gy2 : ∀ X : Grown Y, X.w.cell? ⟨wr.heap.size, 2, none⟩ = some (.int .i64 x.normal) := fun X => by rw [X.cell HWY.out.lt]; exact HWY.out.cell 2
              refine wp_region_grown (by kernel_rfl) (by kernel_rfl) ?_
              repeat (go_big_quiet_step (fail))
              refine wpQuiet_nil ?_
              rintro _ ⟨Z, rfl⟩
              go_wp2_with fail
              go_ret2
              refine ⟨ko, kc, ?_, ?_, ?_, hk2, below_step HB.out (below_step (below_step HBVU.out HBUY.out) Z.below)⟩
              · rw [HT2.out, ← Hkl.out]; rfl
              · rw [HT2.out]; exact HKs.out.below Z.below
              · rw [HT2.out]; rw [← Hkl.out]; exact hk1
          · obtain rfl : j = m := by omega
            have hd2 : decide ((j : Int) < j) = false := decide_eq_false (by omega)
            have hT : T = ([], 0) := by rw [HT.out]; exact Con.taken_noslot HK.out (Con.some_end (by have := HJ.out.2; rwa [Hm.out] at this))
            have HT2 := Lib.hid hT
            clear hT
            go_wp2_with fail
            go_ret2
            exact ⟨none, 0, by rw [HT2.out]; rfl, by rw [HT2.out]; exact Or.inl rfl, by rw [HT2.out]; exact Nat.le_refl _, by decide, HBj.out⟩
    · obtain rfl : k = n := by omega
      have hd : decide ((k : Int) < k) = false := decide_eq_false (by omega)
      have hT : T = ([], 0) := by rw [HT.out]; exact Con.taken_none (Con.some_end (by have := HR.out.2; rwa [Hn.out] at this))
      have HT2 := Lib.hid hT
      clear hT
      go_wp2_with fail
      go_ret2
      exact ⟨none, 0, by rw [HT2.out]; rfl, by rw [HT2.out]; exact Or.inl rfl, by rw [HT2.out]; exact Nat.le_refl _, by decide, HBr.out⟩
end Go.Proofs.Ytapjnbofhdljfaa
