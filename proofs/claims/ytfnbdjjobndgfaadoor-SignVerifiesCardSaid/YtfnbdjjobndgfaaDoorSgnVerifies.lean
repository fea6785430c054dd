/- The walk of SignVerifies. -/
import Derived.Test.YtfnbdjjobndgfaaDoorSgnForm
namespace Go.Proofs.YtfnbdjjobndgfaaDoor
open Go.RowKit

set_option maxRecDepth 100000 in
set_option maxHeartbeats 8000000 in
theorem verifies_any (sec : ByteArray) (hs : sec.size ≤ 140737488351232) (x : Int) (hx0 : 0 ≤ x) (hx1 : x ≤ 255) (y : Int) (hy0 : 0 ≤ y) (hy1 : y ≤ 255) (msg : ByteArray) (hm : msg.size ≤ 140737488351232) (W : World) (ht : Tab W) :
    Calls Tryd.prog 4 #[.string sec, .int .u8 x, .int .u8 y, .string msg] W fun e W' => e = .returned (.bool true) ∧ Below W.heap.size W W' := by
  have HT := Lib.hid ht
  have HSh := Lib.hid (short2 sec msg hs hm)
  have HHd := Lib.hid (head_any W ht)
  obtain ⟨b1, Hb1⟩ : ∃ b, Hid (b = (decide (sec.size ≤ 300) && decide (msg.size ≤ 300))) := ⟨_, Lib.hid rfl⟩
  rw [← Hb1.out] at HSh
  go_enter Tryd.func4, Tryd.ntmps4
  go_wp2_with fail
  refine HHd.out.mono ?_
  rintro e w1 ⟨rfl, hb⟩
  have HB1 := Lib.hid hb
  clear hb
  go_wp2_with fail
  refine (HSh.out w1).mono ?_
  rintro e _ ⟨rfl, rfl⟩
  obtain ⟨W2, HW2⟩ : ∃ x, Hid (x = w1.alloc (.cells #[.string sec, .string msg] 9)) := ⟨_, Lib.hid rfl⟩
  have HB2 : Hid (Below W.heap.size W W2) := Lib.hid (by rw [HW2.out]; exact HB1.out.alloc HB1.out.size _)
  rw [← HW2.out]
  clear HW2 ht
  cases b1 with
  | false =>
    go_wp2_with fail
    go_ret
    exact ⟨rfl, HB2.out⟩
  | true =>
    have hs3 : sec.size ≤ 300 := by
      have h := Hb1.out.symm
      rw [Bool.and_eq_true] at h
      exact of_decide_eq_true h.1
    clear Hb1
    obtain ⟨a, rfl⟩ : ∃ a : Nat, x = a := ⟨x.toNat, by omega⟩
    obtain ⟨b, rfl⟩ : ∃ a : Nat, y = a := ⟨y.toNat, by omega⟩
    obtain ⟨h, Hh⟩ : ∃ h, Hid (h = a % 4) := ⟨_, Lib.hid rfl⟩
    have hm4 : ((a : Int) % 4) = (h : Int) := by rw [Hh.out]; omega
    have hh3 : h ≤ 3 := by rw [Hh.out]; omega
    obtain ⟨N, HN⟩ : ∃ N, Hid (N = 2 ^ h) := ⟨_, Lib.hid rfl⟩
    have hN : wrap64 ((2 : Int) ^ h) = (N : Int) := by rw [HN.out]; exact wrap_pow h (by omega)
    have hN0 : 0 < N := by rw [HN.out]; exact Nat.pow_pos (by decide)
    have hN8 : N ≤ 8 := by rw [HN.out]; exact (Nat.pow_le_pow_right (by decide) hh3 : 2 ^ h ≤ 2 ^ 3)
    obtain ⟨i, Hi⟩ : ∃ i, Hid (i = b % N) := ⟨_, Lib.hid rfl⟩
    have hmN : ((b : Int) % N) = (i : Int) := by rw [Hi.out]; push_cast; rfl
    have hiN : i < N := by rw [Hi.out]; exact Nat.mod_lt _ hN0
    have hih : i < 2 ^ h := by rw [← HN.out]; exact hiN
    have hih1 : i < 2 ^ (h + 1) := by rw [Nat.pow_succ]; omega
    obtain ⟨pub, Hpub⟩ : ∃ x, Hid (x = Sgn.rootV sec h) := ⟨_, Lib.hid rfl⟩
    obtain ⟨sig, Hsig⟩ : ∃ x, Hid (x = Sgn.sigV sec i msg) := ⟨_, Lib.hid rfl⟩
    obtain ⟨path, Hpath⟩ : ∃ x, Hid (x = Sgn.pathV sec h i) := ⟨_, Lib.hid rfl⟩
    have HP : Hid (∀ X, Below W.heap.size W X → Calls Tryd.prog 13 #[.string sec, .int .i64 h] X fun e w' => e = .returned (.tuple #[.string pub, .int .i64 0]) ∧ Below X.heap.size X w') := Lib.hid fun X hX => by
      rw [Hpub.out]; exact public_good sec hs3 h (by omega) X (HT.out.below hX)
    have HS1 : Hid (∀ X, Below W.heap.size W X → Calls Tryd.prog 15 #[.string sec, .int .i64 h, .int .i64 i, .string msg] X fun e w' => (∃ so po c1 c2, e = .returned (.tuple #[.agg #[.int .i64 i, .slice so 18 c1, .slice po h c2], .int .i64 0]) ∧ IsStrs w' so sig ∧ IsStrs w' po path ∧ 18 ≤ c1 ∧ h ≤ c2) ∧ Below X.heap.size X w') := Lib.hid fun X hX => by
      rw [Hsig.out, Hpath.out]; exact callsIn_wide.1 (sign_good sec msg hs3 hm h i (by omega) hih X (HT.out.below hX))
    have HS2 : Hid (∀ X, Below W.heap.size W X → Calls Tryd.prog 15 #[.string sec, .int .i64 ((h : Int) + 1), .int .i64 i, .string msg] X fun e w' => (∃ so po c1 c2, e = .returned (.tuple #[.agg #[.int .i64 i, .slice so 18 c1, .slice po (h + 1) c2], .int .i64 0]) ∧ IsStrs w' so sig ∧ IsStrs w' po (Sgn.pathV sec (h + 1) i) ∧ 18 ≤ c1 ∧ h + 1 ≤ c2) ∧ Below X.heap.size X w') := Lib.hid fun X hX => by
      rw [Hsig.out]; exact callsIn_wide.1 (sign_good sec msg hs3 hm (h + 1) i (by omega) hih1 X (HT.out.below hX))
    have hl1 : sig.length = 18 := by rw [Hsig.out, Sgn.sig_len]
    have hl2 : path.length = h := by rw [Hpath.out, Sgn.path_len]
    have hi1 : (sig.all fun s => Dig.isB s.data.toList) = true := by rw [Hsig.out]; exact Sgn.sig_is _ _ _
    have hi2 : (path.all fun s => Dig.isB s.data.toList) = true := by rw [Hpath.out]; exact Sgn.path_is _ _ _ (by omega) hih
    have hz : ∀ {l : List ByteArray}, (l.all fun s => Dig.isB s.data.toList) = true → ∀ s ∈ l, s.size ≤ 140737488351232 := fun h s hs => by
      have : s.size = 16 := (Sgn.isB_parts (List.all_eq_true.1 h s hs)).1
      omega
    have HSame : Hid (∀ X a1 b1 a2 b2 c1 d1 c2 d2, IsStrs X a1 sig → IsStrs X b1 path → IsStrs X a2 sig → IsStrs X b2 path → Calls Tryd.prog 17 #[.agg #[.int .i64 i, .slice a1 18 c1, .slice b1 h d1], .agg #[.int .i64 i, .slice a2 18 c2, .slice b2 h d2]] X
        fun e w' => e = .returned (.bool true) ∧ Below X.heap.size X w') := Lib.hid fun X a1 b1 a2 b2 c1 d1 c2 d2 g1 g2 g3 g4 => by
      have := same_any i i a1 b1 a2 b2 c1 d1 c2 d2 sig path sig path (by omega) X g1 g2 g3 g4
      rw [hl1, hl2, show sameS i i sig path sig path = true by unfold sameS; rw [sameB_true rfl, sameB_true rfl]; simp] at this
      exact this
    have HSigs : Hid (∀ X a1 a2 c1 c2, IsStrs X a1 sig → IsStrs X a2 sig → Calls Tryd.prog 21 #[.slice a1 18 c1, .slice a2 18 c2] X fun e w' => e = .returned (.bool true) ∧ Below X.heap.size X w') := Lib.hid fun X a1 a2 c1 c2 g1 g2 => by
      have := refSame_any a1 a2 sig sig c1 c2 X g1 g2 (by omega) (by omega)
      rw [hl1, sameB_true rfl] at this
      exact this
    have HIs : Hid (∀ X, Calls Tryd.prog 20 #[.string pub] X fun e w' => e = .returned (.bool true) ∧ X = w') := Lib.hid fun X => by
      have hi := Sgn.root_is sec h
      rw [← Hpub.out] at hi
      have := is_any pub (by have := (Sgn.isB_parts hi).1; have e : pub.size = 16 := this; omega) X
      rw [hi] at this
      exact this
    have HI1 : Hid (∀ k, (hk : k < 18) → ∀ X so, IsStrs X so sig → ∃ bk off s, so = some ⟨bk, off, none⟩ ∧ X.cell? ⟨bk, off + k, none⟩ = some (.string s) ∧ ∀ Y, Calls Tryd.prog 20 #[.string s] Y fun e w' => e = .returned (.bool true) ∧ Y = w') := Lib.hid fun k hk X so hX => by
      obtain ⟨bk, off, e, h1, h2⟩ := strs_at hX (k := k) (by omega)
      refine ⟨bk, off, _, e, h2 k (by omega), fun Y => ?_⟩
      have hs := List.getElem_mem (l := sig) (n := k) (by omega)
      have := is_any sig[k] (hz hi1 _ hs) Y
      rw [List.all_eq_true.1 hi1 _ hs] at this
      exact this
    have HI2 : Hid (∀ k, (hk : k < h) → ∀ X po, IsStrs X po path → ∃ bk off s, po = some ⟨bk, off, none⟩ ∧ X.cell? ⟨bk, off + k, none⟩ = some (.string s) ∧ ∀ Y, Calls Tryd.prog 20 #[.string s] Y fun e w' => e = .returned (.bool true) ∧ Y = w') := Lib.hid fun k hk X so hX => by
      obtain ⟨bk, off, e, h1, h2⟩ := strs_at hX (k := k) (by omega)
      refine ⟨bk, off, _, e, h2 k (by omega), fun Y => ?_⟩
      have hs := List.getElem_mem (l := path) (n := k) (by omega)
      have := is_any path[k] (hz hi2 _ hs) Y
      rw [List.all_eq_true.1 hi2 _ hs] at this
      exact this
    have HVr : Hid (∀ X so po c1 c2, Below W.heap.size W X → IsStrs X so sig → IsStrs X po path → Calls Tryd.prog 18 #[.string pub, .string msg, .agg #[.int .i64 i, .slice so 18 c1, .slice po h c2]] X fun e w' => e = .returned (.bool true) ∧ Below X.heap.size X w') := Lib.hid fun X so po c1 c2 hX g1 g2 => by
      have := verify_any pub msg hm i so po c1 c2 sig path (by omega) (by omega) (hz hi1) (hz hi2) X (HT.out.below hX) g1 g2
      rw [hl1, hl2, show Sgn.verifyB pub msg i sig path = true by rw [Hpub.out, Hsig.out, Hpath.out]; exact Sgn.verify_sig sec h i msg (by omega) hih] at this
      exact this
    clear hl1 hl2 hi1 hi2 hz hih hih1 hs hm
    go_wp2_with fail
    refine (HP.out _ HB2.out).mono ?_
    rintro e w3 ⟨rfl, hb⟩
    have HB3 := Lib.hid (below_step HB2.out hb)
    clear hb
    go_wp2_with fail
    refine (HS1.out _ HB3.out).mono ?_
    rintro e w4 ⟨⟨so, po, c1, c2, rfl, g1, g2, -, -⟩, hb⟩
    have HB4 := Lib.hid (below_step HB3.out hb)
    have HG1 := Lib.hid (And.intro g1 g2)
    clear hb g1 g2
    go_wp2_with fail
    obtain ⟨W5, HW5⟩ : ∃ x, Hid (x = w4.alloc (.cells #[.int .i64 i, .slice so 18 c1, .slice po h c2] 24)) := ⟨_, Lib.hid rfl⟩
    have HB45 : Hid (Below w4.heap.size w4 W5) := Lib.hid (by rw [HW5.out]; exact (Below.refl _ _).alloc (Nat.le_refl _) _)
    have HB5 := Lib.hid (below_step HB4.out HB45.out)
    have HA := Lib.hid (show Whole W5 w4.heap.size 24 #[.int .i64 i, .slice so 18 c1, .slice po h c2] by rw [HW5.out]; exact Whole.new _ _ _)
    rw [← HW5.out]
    refine (HS1.out _ HB5.out).mono ?_
    rintro e w6 ⟨⟨so', po', c1', c2', rfl, g1, g2, -, -⟩, hb⟩
    have HB56 := Lib.hid hb
    have HG2 := Lib.hid (And.intro g1 g2)
    clear hb g1 g2
    go_wp2_with fail
    obtain ⟨W7, HW7⟩ : ∃ x, Hid (x = w6.alloc (.cells #[.int .i64 i, .slice so' 18 c1', .slice po' h c2'] 24)) := ⟨_, Lib.hid rfl⟩
    have HB67 : Hid (Below w6.heap.size w6 W7) := Lib.hid (by rw [HW7.out]; exact (Below.refl _ _).alloc (Nat.le_refl _) _)
    have HB57 := Lib.hid (below_step HB56.out HB67.out)
    have HB7 := Lib.hid (below_step HB5.out HB57.out)
    have HA2 := Lib.hid (show Whole W7 w6.heap.size 24 #[.int .i64 i, .slice so' 18 c1', .slice po' h c2'] by rw [HW7.out]; exact Whole.new _ _ _)
    rw [← HW7.out]
    refine (HS2.out _ HB7.out).mono ?_
    rintro e w8 ⟨⟨so2, po2, c3, c4, rfl, g1, -, -, -⟩, hb⟩
    have HB78 := Lib.hid hb
    have HG3 := Lib.hid g1
    have v1 : Whole w8 w4.heap.size 24 #[.int .i64 i, .slice so 18 c1, .slice po h c2] := (hb.block _ (by have := (HB57.out.block _ HA.out.lt).trans HA.out; exact (Array.getElem?_eq_some_iff.1 this).1)).trans ((HB57.out.block _ HA.out.lt).trans HA.out)
    have v2 : Whole w8 w6.heap.size 24 #[.int .i64 i, .slice so' 18 c1', .slice po' h c2'] := (hb.block _ HA2.out.lt).trans HA2.out
    obtain ⟨A1, HAq1⟩ : ∃ x, Hid (x = w4.heap.size) := ⟨_, Lib.hid rfl⟩
    obtain ⟨A2, HAq2⟩ : ∃ x, Hid (x = w6.heap.size) := ⟨_, Lib.hid rfl⟩
    obtain ⟨A3, HAq3⟩ : ∃ x, Hid (x = w8.heap.size) := ⟨_, Lib.hid rfl⟩
    rw [← HAq1.out] at v1
    rw [← HAq2.out] at v2
    rw [← HAq1.out, ← HAq2.out]
    have n3 : A1 < w8.heap.size := v1.lt
    have n4 : A2 < w8.heap.size := v2.lt
    have n1 : ¬ A1 = w8.heap.size := by omega
    have n2 : ¬ A2 = w8.heap.size := by omega
    have k0 := v1.cell 0
    have k1 := v1.cell 1
    have k2 := v1.cell 2
    have l0 := v2.cell 0
    have l1 := v2.cell 1
    have l2 := v2.cell 2
    simp only [List.getElem?_toArray, List.getElem?_cons_zero, List.getElem?_cons_succ] at k0 k1 k2 l0 l1 l2
    clear hb g1 v1 v2
    go_wp2_with fail
    obtain ⟨W9, HW9⟩ : ∃ x, Hid (x = w8.alloc (.cells #[.int .i64 i, .slice so2 18 c3, .slice po2 (h + 1) c4] 24)) := ⟨_, Lib.hid rfl⟩
    have HB89 : Hid (Below w8.heap.size w8 W9) := Lib.hid (by rw [HW9.out]; exact (Below.refl _ _).alloc (Nat.le_refl _) _)
    have HB79 := Lib.hid (below_step HB78.out HB89.out)
    have HB9 := Lib.hid (below_step HB7.out HB79.out)
    have HA3 := Lib.hid (show Whole W9 w8.heap.size 24 #[.int .i64 i, .slice so2 18 c3, .slice po2 (h + 1) c4] by rw [HW9.out]; exact Whole.new _ _ _)
    rw [← HW9.out]
    have HC : Hid (∀ X, Below W9.heap.size W9 X → Below W.heap.size W X ∧ IsStrs X so sig ∧ IsStrs X po path ∧ IsStrs X so' sig ∧ IsStrs X po' path ∧ IsStrs X so2 sig ∧ Whole X A1 24 #[.int .i64 i, .slice so 18 c1, .slice po h c2] ∧ Whole X A2 24 #[.int .i64 i, .slice so' 18 c1', .slice po' h c2'] ∧ Whole X A3 24 #[.int .i64 i, .slice so2 18 c3, .slice po2 (h + 1) c4]) := Lib.hid fun X hX => by
      have b8 := below_step HB89.out hX
      have b7 := below_step HB79.out hX
      have b6 := below_step HB67.out b7
      have b5 := below_step HB57.out b7
      have b4 := below_step HB45.out b5
      rw [HAq1.out, HAq2.out, HAq3.out]
      exact ⟨below_step HB9.out hX, HG1.out.1.below b4, HG1.out.2.below b4, HG2.out.1.below b6, HG2.out.2.below b6, HG3.out.below b8, (b5.block _ HA.out.lt).trans HA.out, (b7.block _ HA2.out.lt).trans HA2.out, (hX.block _ HA3.out.lt).trans HA3.out⟩
    rw [← HAq3.out]
    clear HW5 HW7 HW9
    obtain ⟨-, x1, x2, x3, x4, -, -, -, -⟩ := HC.out _ (Below.refl _ _)
    have HSm := Lib.hid (HSame.out W9 so po so' po' c1 c2 c1' c2' x1 x2 x3 x4)
    clear x1 x2 x3 x4
    refine HSm.out.mono ?_
    rintro e w10 ⟨rfl, hb⟩
    have HB10 := Lib.hid hb
    clear hb k0 k1 k2 l0 l1 l2 n1 n2 n3 n4
    obtain ⟨-, x1, x2, -, -, -, u1, -, u3⟩ := HC.out _ HB10.out
    have k0 := u1.cell 0
    have k1 := u1.cell 1
    have k2 := u1.cell 2
    have l1 := u3.cell 1
    simp only [List.getElem?_toArray, List.getElem?_cons_zero, List.getElem?_cons_succ] at k0 k1 k2 l1
    have HX := Lib.hid (And.intro x1 x2)
    clear x1 x2 u1 u3
    go_wp2_with fail
    go_loop [20] (fun i => ∃ k : Nat, k ≤ 18 ∧ i = .int .i64 k ∧ Hid (Okn k)) (fun i => 18 - (intOf i).toNat)
    case atStart => exact ⟨0, by omega, rfl, okn _⟩
    case round =>
      obtain ⟨k, hk, rfl, -⟩ := hrel
      by_cases hlt : k < 18
      · have hlt' : (k : Int) < 18 := by omega
        obtain ⟨bk, off, s, rfl, d1, hIs⟩ := HI1.out k hlt w10 so HX.out.1
        have HI := Lib.hid hIs
        clear hIs
        go_wp2_with fail
        refine (HI.out _).mono ?_
        rintro e _ ⟨rfl, rfl⟩
        go_wp2
        go_round
        case rel => exact ⟨k + 1, by omega, by go_num, okn _⟩
        case measure => simp [intOf]; omega
      · obtain rfl : k = 18 := by omega
        go_wp2_with fail
        go_loop [21] (fun i => ∃ k : Nat, k ≤ h ∧ i = .int .i64 k ∧ Hid (Okn k)) (fun i => h - (intOf i).toNat)
        case atStart => exact ⟨0, by omega, rfl, okn _⟩
        case round =>
          obtain ⟨k, hk, rfl, -⟩ := hrel
          by_cases hlt : k < h
          · have hlt' : (k : Int) < h := by omega
            obtain ⟨bk, off, s, rfl, d1, hIs⟩ := HI2.out k hlt w10 po HX.out.2
            have HI := Lib.hid hIs
            clear hIs
            go_wp2_with fail
            refine (HI.out _).mono ?_
            rintro e _ ⟨rfl, rfl⟩
            go_wp2
            go_round
            case rel => exact ⟨k + 1, by omega, by go_num, okn _⟩
            case measure => simp [intOf]; omega
          · obtain rfl : h = k := by omega
            obtain ⟨-, -, -, -, -, x5, -⟩ := HC.out _ HB10.out
            have HSg := Lib.hid (HSigs.out w10 so2 so c3 c1 x5 HX.out.1)
            clear x5
            go_wp2_with fail
            refine (HIs.out _).mono ?_
            rintro e _ ⟨rfl, rfl⟩
            go_wp2_with fail
            refine HSg.out.mono ?_
            rintro e w11 ⟨rfl, hb⟩
            have HB11 := Lib.hid (below_step HB10.out hb)
            clear hb k0 k1 k2 l1
            obtain ⟨hw, x1, x2, -, -, -, u1, -, -⟩ := HC.out _ HB11.out
            have k0 := u1.cell 0
            have k1 := u1.cell 1
            have k2 := u1.cell 2
            simp only [List.getElem?_toArray, List.getElem?_cons_zero, List.getElem?_cons_succ] at k0 k1 k2
            have HVf := Lib.hid (HVr.out w11 so po c1 c2 hw x1 x2)
            clear hw x1 x2 u1
            go_wp2_with fail
            refine HVf.out.mono ?_
            rintro e w12 ⟨rfl, hb⟩
            have HB12 := Lib.hid (below_step HB11.out hb)
            clear hb
            obtain ⟨hw, -⟩ := HC.out _ HB12.out
            have HWe := Lib.hid hw
            clear hw
            go_wp2_with fail
            go_ret
            exact ⟨rfl, HWe.out⟩

end Go.Proofs.YtfnbdjjobndgfaaDoor
