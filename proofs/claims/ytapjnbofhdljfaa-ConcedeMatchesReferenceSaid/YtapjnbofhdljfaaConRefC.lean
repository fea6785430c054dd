/- The reference's Find of kinds, get, Normal. -/
import Derived.Test.YtapjnbofhdljfaaConRefB
namespace Go.Proofs.Ytapjnbofhdljfaa
open Go.RowKit
open Cat

def noKnd : Knd := ⟨Con.empty, false, []⟩
def knd (c : List Knd) (kind : ByteArray) : Knd := (c.find? fun k => decide (k.name = kind)).getD noKnd
theorem knd_size : (Try.prog.info? 78).map (·.size) = some 3 := by kernel_rfl
theorem slt_size : (Try.prog.info? 74).map (·.size) = some 3 := by kernel_rfl
set_option maxRecDepth 100000 in
set_option maxHeartbeats 4000000 in
theorem refKnd_any (co : Option Addr) (c : List Knd) (cc : Nat) (kind : ByteArray) (hl : c.length ≤ 9223372036854775807) (W0 : World) (hi : IsL 3 ElKnd W0 co c) (W : World) (h0 : Below W0.heap.size W0 W) :
    Calls Try.prog 51 #[.agg #[.slice co c.length cc], .string kind] W fun e w' => ∃ so sc, e = .returned (.tuple #[.agg #[.string (knd c kind).name, .bool (knd c kind).vehicle, .slice so (knd c kind).slots.length sc], .bool (c.find? fun k => decide (k.name = kind)).isSome]) ∧ IsL 3 ElSlt W0 so (knd c kind).slots ∧ (knd c kind).slots.length ≤ 9223372036854775807 ∧ Below W.heap.size W w' := by
  obtain ⟨n, Hn⟩ : ∃ n, Hid (n = c.length) := ⟨_, Lib.hid rfl⟩
  obtain ⟨G, HG⟩ : ∃ G, Hid (G = knd c kind) := ⟨_, Lib.hid rfl⟩
  obtain ⟨fb, HF⟩ : ∃ b, Hid (b = (c.find? fun k => decide (k.name = kind)).isSome) := ⟨_, Lib.hid rfl⟩
  rw [← HG.out, ← HF.out, ← Hn.out]
  rw [← Hn.out] at hl
  obtain ⟨N, HN⟩ : ∃ N, Hid (N = W.heap.size) := ⟨_, Lib.hid rfl⟩
  obtain ⟨V, HV⟩ : ∃ w, Hid (w = (W.alloc (.cells #[.slice co n cc] 24)).alloc (.cells #[.string ⟨#[]⟩, .bool false, .slice none 0 0] 78)) := ⟨_, Lib.hid rfl⟩
  have HB : Hid (Below W.heap.size W V) := Lib.hid (by rw [HV.out]; exact below_alloc ((Below.refl _ _).alloc (Nat.le_refl _) _) _)
  have HA : Hid (Whole V N 24 #[.slice co n cc]) := Lib.hid (by rw [HV.out]; exact whole_belowM (Whole.newAt _ _ HN.out) ((Below.refl _ _).alloc (Nat.le_refl _) _))
  have HZ : Hid (Whole V (N + 1) 78 #[.string ⟨#[]⟩, .bool false, .slice none 0 0]) := Lib.hid (by rw [HV.out]; exact Whole.newAt _ _ (by rw [size_alloc, HN.out]))
  have HI := Lib.hid hi
  have H0 := Lib.hid h0
  clear hi h0
  have v0 : V.cell? ⟨N, 0, none⟩ = some (.slice co n cc) := HA.out.cell 0
  have HSz := Lib.hid knd_size
  go_enter Try.func51, Try.ntmps51
  go_wp2_with fail
  rw [← HN.out, ← HV.out]
  go_loopw [6] (fun i wr => ∃ k : Nat, k ≤ n ∧ i = .int .i64 k ∧ wr = V ∧ Hid ((c.take k).any (fun p => decide (p.name = kind)) = false)) (fun i _ => n - (intOf i).toNat)
  case atStart => exact ⟨0, Nat.zero_le _, by go_num, rfl, Lib.hid rfl⟩
  case round =>
    obtain ⟨k, hk, rfl, hw, HR⟩ := hrel
    subst hw
    by_cases hkn : k < n
    · have hd : decide ((k : Int) < n) = true := decide_eq_true (by omega)
      have hb0 : (0 : Int) ≤ k := by omega
      have hb1 : (k : Int) < n := by omega
      have hkl : k < c.length := by rw [← Hn.out]; exact hkn
      obtain ⟨bk, off, cs, rfl, hbk, hrg, so, sc, rfl, hss, hs9⟩ := HI.out.at hkl
      obtain ⟨p, Hp⟩ : ∃ m, Hid (m = c[k]) := ⟨_, Lib.hid rfl⟩
      rw [← Hp.out] at hrg hss hs9
      obtain ⟨m, Hm⟩ : ∃ m, Hid (m = p.slots.length) := ⟨_, Lib.hid rfl⟩
      rw [← Hm.out] at hrg
      obtain ⟨pn0, Hpn0⟩ : ∃ m, Hid (m = p.name) := ⟨_, Lib.hid rfl⟩
      rw [← Hpn0.out] at hrg
      have hrg := rangeB hrg hbk (below_step H0.out HB.out)
      have HRg := Lib.hid hrg
      have c0 := hrg 0 _ rfl
      rw [Nat.add_zero] at c0
      have HSs := Lib.hid hss
      have HS9 := Lib.hid hs9
      obtain ⟨b, e1⟩ : ∃ b, (pn0.toList == kind.toList) = b := ⟨_, rfl⟩
      have Heb : Hid (decide (p.name = kind) = b) := Lib.hid (by rw [← Con.eq_list, ← Hpn0.out]; exact e1)
      have HOne : Hid ((#[.string pn0, .bool p.vehicle, .slice so m sc] : Array Value).all (·.oneCell') = true) := Lib.hid (by simp [Value.oneCell'])
      clear hrg hss hs9
      cases b with
      | true =>
        have hfd := Con.find_kind hkl HR.out (by rw [← Hp.out]; exact of_decide_eq_true Heb.out)
        obtain rfl : G = p := by rw [HG.out, Hp.out]; unfold knd; rw [hfd]; rfl
        obtain rfl : fb = true := by rw [HF.out, hfd]; rfl
        clear hfd
        go_wp2_with (first
          | (with_reducible show wpList _ _ _ (Oper.mk _ (Op.load 78 _) _ _ _ _ :: _) _ _; refine Hid.out ?_))
        refine Lib.hid ?_
        refine wpList_load_mid rfl _ _ rfl bk (off + k * 3) rfl _ _ HRg.out Try.underlying78 rfl (HSz.out.trans rfl) ?_
        refine wpList_store_whole rfl _ _ _ rfl (N + 1) _ _ _ rfl rfl HZ.out (HSz.out.trans rfl) rfl HOne.out ?_
        intro w3 hw3 hg3 _
        have HW3 := Lib.hid hw3
        have HB3 : Hid (Below W.heap.size W w3) := Lib.hid (HB.out.grown hg3 HB.out.size (fun y e => by cases e; rw [HN.out]; omega))
        clear hw3 hg3
        go_wp2_with fail
        exact bodyPost_ret (results_pair (cs := [.string pn0, .bool G.vehicle, .slice so m sc]) rfl Try.underlying78 rfl _ _ (N + 1) (HSz.out.trans rfl) HW3.out rfl) rfl ⟨so, sc, by rw [← Hm.out, ← Hpn0.out]; rfl, HSs.out, HS9.out, HB3.out⟩
      | false =>
        have HN2 := Lib.hid (Con.some_next (q := fun p : Knd => decide (p.name = kind)) hkl HR.out (by rw [← Hp.out]; exact Heb.out))
        go_wp2_with fail
        go_round
        case rel => exact ⟨k + 1, by omega, by go_num, trivial, HN2⟩
        case measure => simp [intOf]; omega
    · obtain rfl : k = n := by omega
      have hd : decide ((k : Int) < k) = false := decide_eq_false (by omega)
      have hfd : (c.find? fun k => decide (k.name = kind)) = none := by
        rw [List.find?_eq_none]
        have := Con.some_end (by have := HR.out; rwa [Hn.out] at this : (c.take c.length).any (fun p => decide (p.name = kind)) = false)
        exact fun x hx => List.any_eq_false.1 this x hx
      obtain rfl : G = noKnd := by rw [HG.out]; unfold knd; rw [hfd]; rfl
      obtain rfl : fb = false := by rw [HF.out, hfd]; rfl
      have HOne : Hid ((#[.string ⟨#[]⟩, .bool false, .slice none 0 0] : Array Value).all (·.oneCell') = true) := Lib.hid (by simp [Value.oneCell'])
      clear hfd
      go_wp2_with (first
        | (with_reducible show wpList _ _ _ (Oper.mk _ (Op.store 78 _ _) _ _ _ _ :: _) _ _; refine Hid.out ?_))
      refine Lib.hid ?_
      refine wpList_store_whole rfl _ _ _ rfl (N + 1) _ _ #[.string ⟨#[]⟩, .bool false, .slice none 0 0] rfl rfl HZ.out (HSz.out.trans rfl) rfl HOne.out ?_
      intro w3 hw3 hg3 _
      have HW3 := Lib.hid hw3
      have HB3 : Hid (Below W.heap.size W w3) := Lib.hid (HB.out.grown hg3 HB.out.size (fun y e => by cases e; rw [HN.out]; omega))
      clear hw3 hg3
      go_wp2_with fail
      exact bodyPost_ret (results_pair (cs := [.string ⟨#[]⟩, .bool false, .slice none 0 0]) rfl Try.underlying78 rfl _ _ (N + 1) (HSz.out.trans rfl) HW3.out rfl) rfl ⟨none, 0, rfl, IsL.nil, Nat.zero_le _, HB3.out⟩

namespace Con
theorem taken_knd {c : List Knd} {kind slot : ByteArray} : taken c kind slot = match (knd c kind).slots.find? fun s => decide (s.name = slot) with
    | none => ([], 0)
    | some s => (s.kinds, s.normal) := by
  unfold taken knd
  cases (c.find? fun k => decide (k.name = kind)) <;> rfl
theorem taken_here {c : List Knd} {kind slot : ByteArray} {k : Nat} (hk : k < (knd c kind).slots.length) (h : ((knd c kind).slots.take k).any (fun k => decide (k.name = slot)) = false) (hn : (knd c kind).slots[k].name = slot) : taken c kind slot = ((knd c kind).slots[k].kinds, (knd c kind).slots[k].normal) := by
  have : ((knd c kind).slots.find? fun k => decide (k.name = slot)) = some (knd c kind).slots[k] := by
    rw [List.find?_eq_some_iff_getElem]
    refine ⟨decide_eq_true hn, k, hk, rfl, fun j hj => ?_⟩
    have := List.any_eq_false.1 h (knd c kind).slots[j] (by rw [List.mem_take_iff_getElem]; exact ⟨j, by omega, rfl⟩)
    simpa using this
  rw [taken_knd, this]
theorem taken_gone {c : List Knd} {kind slot : ByteArray} (h : (knd c kind).slots.any (fun k => decide (k.name = slot)) = false) : taken c kind slot = ([], 0) := by
  have : ((knd c kind).slots.find? fun k => decide (k.name = slot)) = none := by
    rw [List.find?_eq_none]; exact fun x hx => List.any_eq_false.1 h x hx
  rw [taken_knd, this]
end Con
/-- What the reference's get returns. -/
def GetR (T : List ByteArray × Int) (W : World) (e : Ending) (w' : World) : Prop :=
  ∃ nm ko kc ok, e = .returned (.tuple #[.agg #[.string nm, .slice ko T.1.length kc, .int .i64 T.2], .bool ok]) ∧ IsStrs w' ko T.1 ∧ T.1.length ≤ kc ∧ kc ≤ 9223372036854775807 ∧ (ok = false → T = ([], 0)) ∧ Below W.heap.size W w'
set_option maxRecDepth 100000 in
set_option maxHeartbeats 4000000 in
theorem refGet_any (co : Option Addr) (c : List Knd) (cc : Nat) (kind slot : ByteArray) (hl : c.length ≤ 9223372036854775807) (W : World) (hi : IsL 3 ElKnd W co c) :
    Calls Try.prog 40 #[.agg #[.slice co c.length cc], .string kind, .string slot] W (GetR (Con.taken c kind slot) W) := by
  obtain ⟨n, Hn⟩ : ∃ n, Hid (n = c.length) := ⟨_, Lib.hid rfl⟩
  obtain ⟨N, HN⟩ : ∃ N, Hid (N = W.heap.size) := ⟨_, Lib.hid rfl⟩
  obtain ⟨V, HV⟩ : ∃ w, Hid (w = (W.alloc (.cells #[.slice co n cc] 24)).alloc (.cells #[.string ⟨#[]⟩, .slice none 0 0, .int .i64 0] 74)) := ⟨_, Lib.hid rfl⟩
  have HB : Hid (Below W.heap.size W V) := Lib.hid (by rw [HV.out]; exact below_alloc ((Below.refl _ _).alloc (Nat.le_refl _) _) _)
  have HA : Hid (Whole V N 24 #[.slice co n cc]) := Lib.hid (by rw [HV.out]; exact whole_belowM (Whole.newAt _ _ HN.out) ((Below.refl _ _).alloc (Nat.le_refl _) _))
  have HZ : Hid (Whole V (N + 1) 74 #[.string ⟨#[]⟩, .slice none 0 0, .int .i64 0]) := Lib.hid (by rw [HV.out]; exact Whole.newAt _ _ (by rw [size_alloc, HN.out]))
  have HK := Lib.hid (refKnd_any co c cc kind hl W hi V HB.out)
  clear hi
  rw [← Hn.out] at HK hl ⊢
  obtain ⟨T, HT⟩ : ∃ G, Hid (G = Con.taken c kind slot) := ⟨_, Lib.hid rfl⟩
  rw [← HT.out]
  obtain ⟨K, HKe⟩ : ∃ G, Hid (G = knd c kind) := ⟨_, Lib.hid rfl⟩
  obtain ⟨kb, HKb⟩ : ∃ b, Hid (b = (c.find? fun k => decide (k.name = kind)).isSome) := ⟨_, Lib.hid rfl⟩
  rw [← HKe.out, ← HKb.out] at HK
  obtain ⟨m, Hm⟩ : ∃ n, Hid (n = K.slots.length) := ⟨_, Lib.hid rfl⟩
  rw [← Hm.out] at HK
  obtain ⟨kn, Hkn⟩ : ∃ n, Hid (n = K.name) := ⟨_, Lib.hid rfl⟩
  rw [← Hkn.out] at HK
  have v0 : V.cell? ⟨N, 0, none⟩ = some (.slice co n cc) := HA.out.cell 0
  have HSz := Lib.hid slt_size
  go_enter Try.func40, Try.ntmps40
  go_wp2_with fail
  rw [← HN.out, ← HV.out]
  refine HK.out.mono ?_
  rintro e w1 ⟨so, sc, rfl, hss, hs9, hb⟩
  have HSs := Lib.hid hss
  have HB1 := Lib.hid hb
  obtain ⟨g, Hg⟩ : ∃ g, Hid (g = w1.heap.size) := ⟨_, Lib.hid rfl⟩
  obtain ⟨U, HU⟩ : ∃ w, Hid (w = w1.alloc (.cells #[.string kn, .bool K.vehicle, .slice so m sc] 78)) := ⟨_, Lib.hid rfl⟩
  have HWU : Hid (Whole U g 78 #[.string kn, .bool K.vehicle, .slice so m sc]) := Lib.hid (by rw [HU.out]; exact Whole.newAt _ _ Hg.out)
  have HBU : Hid (Below V.heap.size V U) := Lib.hid (by rw [HU.out]; exact below_alloc HB1.out _)
  have HZU := Lib.hid (whole_belowM HZ.out HBU.out)
  have u2 : U.cell? ⟨g, 2, none⟩ = some (.slice so m sc) := HWU.out.cell 2
  have HBW := Lib.hid (below_step HB.out HBU.out)
  clear hss hb v0
  go_wp2_with fail
  rw [← Hg.out, ← HU.out]
  go_loopw [10] (fun i wr => ∃ k : Nat, k ≤ m ∧ i = .int .i64 k ∧ wr = U ∧ Hid ((K.slots.take k).any (fun p => decide (p.name = slot)) = false)) (fun i _ => m - (intOf i).toNat)
  case atStart => exact ⟨0, Nat.zero_le _, by go_num, rfl, Lib.hid rfl⟩
  case round =>
    obtain ⟨k, hk, rfl, hw, HR⟩ := hrel
    subst hw
    by_cases hkn : k < m
    · have hd : decide ((k : Int) < m) = true := decide_eq_true (by omega)
      have hb0 : (0 : Int) ≤ k := by omega
      have hb1 : (k : Int) < m := by omega
      have hkl : k < K.slots.length := by rw [← Hm.out]; exact hkn
      obtain ⟨bs, os, cs, rfl, hbs, hrs, ko, kc, rfl, hks, hk1, hk2⟩ := HSs.out.at hkl
      obtain ⟨x, Hx⟩ : ∃ m, Hid (m = K.slots[k]) := ⟨_, Lib.hid rfl⟩
      rw [← Hx.out] at hrs hks hk1
      obtain ⟨xn, Hxn⟩ : ∃ m, Hid (m = x.name) := ⟨_, Lib.hid rfl⟩
      obtain ⟨kl, Hkl⟩ : ∃ m, Hid (m = x.kinds.length) := ⟨_, Lib.hid rfl⟩
      rw [← Hxn.out, ← Hkl.out] at hrs
      have hrs := rangeB hrs hbs HBW.out
      have HRg := Lib.hid hrs
      have s0 := hrs 0 _ rfl
      rw [Nat.add_zero] at s0
      have HKs := Lib.hid hks
      have HK1 := Lib.hid hk1
      have HK2 := Lib.hid hk2
      obtain ⟨b, e1⟩ : ∃ b, (xn.toList == slot.toList) = b := ⟨_, rfl⟩
      have Heb : Hid (decide (x.name = slot) = b) := Lib.hid (by rw [← Con.eq_list, ← Hxn.out]; exact e1)
      have HOne : Hid ((#[.string xn, .slice ko kl kc, .int .i64 x.normal] : Array Value).all (·.oneCell') = true) := Lib.hid (by simp [Value.oneCell'])
      clear hrs hks hk1 hk2
      cases b with
      | true =>
        have HT2 : Hid (T = (x.kinds, x.normal)) := Lib.hid (by
          have hx : K.slots[k].name = slot := by rw [← Hx.out]; exact of_decide_eq_true Heb.out
          have hr := HR.out
          rw [HT.out, Hx.out]
          have hke := HKe.out
          subst hke
          exact Con.taken_here hkl hr hx)
        go_wp2_with (first
          | (with_reducible show wpList _ _ _ (Oper.mk _ (Op.load 74 _) _ _ _ _ :: _) _ _; refine Hid.out ?_))
        refine Lib.hid ?_
        refine wpList_load_mid rfl _ _ rfl bs (os + k * 3) rfl _ _ HRg.out Try.underlying74 rfl (HSz.out.trans rfl) ?_
        refine wpList_store_whole rfl _ _ _ rfl (N + 1) _ _ _ rfl rfl HZU.out (HSz.out.trans rfl) rfl HOne.out ?_
        intro w3 hw3 hg3 _
        have HW3 := Lib.hid hw3
        have HB3 : Hid (Below W.heap.size W w3) := Lib.hid (HBW.out.grown hg3 HBW.out.size (fun y e => by cases e; rw [HN.out]; omega))
        have HK3 : Hid (IsStrs w3 ko x.kinds) := Lib.hid (HKs.out.below HB3.out)
        clear hw3 hg3
        go_wp2_with fail
        exact bodyPost_ret (results_pair (cs := [.string xn, .slice ko kl kc, .int .i64 x.normal]) rfl Try.underlying74 rfl _ _ (N + 1) (HSz.out.trans rfl) HW3.out rfl) rfl ⟨xn, ko, kc, true, by rw [HT2.out, ← Hkl.out]; rfl, by rw [HT2.out]; exact HK3.out, by rw [HT2.out]; exact HK1.out, HK2.out, by simp, HB3.out⟩
      | false =>
        have HN2 := Lib.hid (Con.some_next (q := fun p : Slt => decide (p.name = slot)) hkl HR.out (by rw [← Hx.out]; exact Heb.out))
        go_wp2_with fail
        go_round
        case rel => exact ⟨k + 1, by omega, by go_num, trivial, HN2⟩
        case measure => simp [intOf]; omega
    · obtain rfl : k = m := by omega
      have hd : decide ((k : Int) < k) = false := decide_eq_false (by omega)
      have HT2 : Hid (T = ([], 0)) := Lib.hid (by
        have hr := HR.out
        rw [Hm.out] at hr
        rw [HT.out]
        have hke := HKe.out
        subst hke
        exact Con.taken_gone (Con.some_end hr))
      have HOne : Hid ((#[.string ⟨#[]⟩, .slice none 0 0, .int .i64 0] : Array Value).all (·.oneCell') = true) := Lib.hid (by simp [Value.oneCell'])
      go_wp2_with (first
        | (with_reducible show wpList _ _ _ (Oper.mk _ (Op.store 74 _ _) _ _ _ _ :: _) _ _; refine Hid.out ?_))
      refine Lib.hid ?_
      refine wpList_store_whole rfl _ _ _ rfl (N + 1) _ _ #[.string ⟨#[]⟩, .slice none 0 0, .int .i64 0] rfl rfl HZU.out (HSz.out.trans rfl) rfl HOne.out ?_
      intro w3 hw3 hg3 _
      have HW3 := Lib.hid hw3
      have HB3 : Hid (Below W.heap.size W w3) := Lib.hid (HBW.out.grown hg3 HBW.out.size (fun y e => by cases e; rw [HN.out]; omega))
      clear hw3 hg3
      go_wp2_with fail
      exact bodyPost_ret (results_pair (cs := [.string ⟨#[]⟩, .slice none 0 0, .int .i64 0]) rfl Try.underlying74 rfl _ _ (N + 1) (HSz.out.trans rfl) HW3.out rfl) rfl ⟨⟨#[]⟩, none, 0, false, by rw [HT2.out]; rfl, by rw [HT2.out]; exact Or.inl rfl, by rw [HT2.out]; exact Nat.le_refl _, by decide, fun _ => HT2.out, HB3.out⟩
end Go.Proofs.Ytapjnbofhdljfaa
