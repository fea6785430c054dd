/- The walk of SignForm. -/
import Derived.Test.YtfnbdjjobndgfaaDoorSgnHead
import Derived.Test.YtfnbdjjobndgfaaDoorOpenSeal
import Derived.Test.YtfnbdjjobndgfaaDoorQuietTail
namespace Go.Proofs.YtfnbdjjobndgfaaDoor
open Go.RowKit

def Okn (_ : Nat) : Prop := True
theorem okn (k : Nat) : Hid (Okn k) := Lib.hid trivial
theorem strs2 {W : World} {g : Nat} {a b : ByteArray} (h0 : W.cell? ⟨g, 0, none⟩ = some (.string a)) (h1 : W.cell? ⟨g, 1, none⟩ = some (.string b)) : IsStrs W (some ⟨g, 0, none⟩) [a, b] := by
  refine Or.inr ⟨g, 0, rfl, lt_of_cell h0, fun k hk => ?_⟩
  have hk' : k < 2 := hk
  match k, hk' with
  | 0, _ => exact h0
  | 1, _ => exact h1
theorem short2 (a b : ByteArray) (ha : a.size ≤ 140737488351232) (hb : b.size ≤ 140737488351232) (X : World) :
    Calls Tryd.prog 11 #[.slice (some ⟨X.heap.size, 0, none⟩) 2 2] (X.alloc (.cells #[.string a, .string b] 9)) fun e w' => e = .returned (.bool (decide (a.size ≤ 300) && decide (b.size ≤ 300))) ∧ X.alloc (.cells #[.string a, .string b] 9) = w' := by
  have := short_any (some ⟨X.heap.size, 0, none⟩) [a, b] 2 (by simp) (fun s hs => by
    simp only [List.mem_cons, List.not_mem_nil, or_false] at hs
    rcases hs with rfl | rfl <;> omega) (X.alloc (.cells #[.string a, .string b] 9)) (strs2 (by rw [cell_alloc, if_pos rfl] <;> rfl) (by rw [cell_alloc, if_pos rfl] <;> rfl))
  simpa using this
/-- What a seal's block holds, along a walk. -/
theorem seal_cells {W X : World} {B : Nat} {idx : Int} {a b : Value} (hB : Below W.heap.size W X) (hw : Whole W B 24 #[.int .i64 idx, a, b]) :
    X.cell? ⟨B, 0, none⟩ = some (.int .i64 idx) ∧ X.cell? ⟨B, 1, none⟩ = some a ∧ X.cell? ⟨B, 2, none⟩ = some b := by
  have h : Whole X B 24 #[.int .i64 idx, a, b] := (hB.block B hw.lt).trans hw
  exact ⟨h.cell 0, h.cell 1, h.cell 2⟩

set_option maxRecDepth 100000 in
set_option maxHeartbeats 4000000 in
theorem form_no (pub : ByteArray) (hp : pub.size ≤ 140737488351232) (msg : ByteArray) (hm : msg.size ≤ 140737488351232) (idx : Int) (so po : Option Addr) (c1 c2 : Nat) (sig path : List ByteArray) (W : World) (hl : SealFine W idx so po c1 c2 sig path) (ht : Tab W)
    (hv : Sgn.verifyB pub msg idx sig path = false) :
    Calls Tryd.prog 9 #[.string pub, .string msg, .agg #[.int .i64 idx, .slice so sig.length c1, .slice po path.length c2]] W fun e W' => e = .returned (.bool true) ∧ Below W.heap.size W W' := by
  have HH : Hid (∀ X, Below W.heap.size W X → Calls Tryd.prog 10 #[] X fun e w' => e = .returned (.bool true) ∧ Below X.heap.size X w') := Lib.hid fun X hX => head_any X (ht.below hX)
  have HSh := Lib.hid (short2 pub msg hp hm)
  obtain ⟨b1, Hb1⟩ : ∃ b, Hid (b = (decide (pub.size ≤ 300) && decide (msg.size ≤ 300))) := ⟨_, Lib.hid rfl⟩
  rw [← Hb1.out] at HSh
  have HFw : Hid (∀ X, Below W.heap.size W X → Calls Tryd.prog 12 #[.agg #[.int .i64 idx, .slice so sig.length c1, .slice po path.length c2]] X (FewPost X sig path)) := Lib.hid fun X hX =>
    few_any idx so po c1 c2 sig path hl.z1 hl.z2 X (hl.is1.below hX) (hl.is2.below hX)
  have HVr : Hid (FewS sig path → ∀ X, Below W.heap.size W X → Calls Tryd.prog 18 #[.string pub, .string msg, .agg #[.int .i64 idx, .slice so sig.length c1, .slice po path.length c2]] X fun e w' => e = .returned (.bool false) ∧ Below X.heap.size X w') := Lib.hid fun hf X hX => by
    have := verify_any pub msg hm idx so po c1 c2 sig path (by have := hf.1; omega) (by have := hf.2.1; omega) (fun s hs => by have := hf.2.2.1 s hs; omega) (fun s hs => by have := hf.2.2.2 s hs; omega) X (ht.below hX) (hl.is1.below hX) (hl.is2.below hX)
    rw [hv] at this
    exact this
  obtain ⟨n, Hn⟩ : ∃ n, Hid (n = sig.length) := ⟨_, Lib.hid rfl⟩
  obtain ⟨p, Hp⟩ : ∃ n, Hid (n = path.length) := ⟨_, Lib.hid rfl⟩
  rw [← Hn.out, ← Hp.out] at HFw HVr ⊢
  clear hl ht hv hp hm
  go_enter Tryd.func9, Tryd.ntmps9
  go_wp2_with fail
  have hB0 : Below W.heap.size W (W.alloc (.cells #[.int .i64 idx, .slice so n c1, .slice po p c2] 24)) := (Below.refl _ _).alloc (Nat.le_refl _) _
  refine (HH.out _ hB0).mono ?_
  rintro e w1 ⟨rfl, hb⟩
  have HB1 := Lib.hid (below_step hB0 hb)
  have HA := Lib.hid (show Whole w1 W.heap.size 24 #[.int .i64 idx, .slice so n c1, .slice po p c2] from (hb.block _ (Whole.new _ _ _).lt).trans (Whole.new _ _ _))
  clear hb hB0
  go_wp2_with fail
  refine (HSh.out w1).mono ?_
  rintro e _ ⟨rfl, rfl⟩
  obtain ⟨W2, HW2⟩ : ∃ x, Hid (x = w1.alloc (.cells #[.string pub, .string msg] 9)) := ⟨_, Lib.hid rfl⟩
  have HB12 : Hid (Below w1.heap.size w1 W2) := Lib.hid (by rw [HW2.out]; exact (Below.refl _ _).alloc (Nat.le_refl _) _)
  have HB2 : Hid (Below W.heap.size W W2) := Lib.hid (below_step HB1.out HB12.out)
  rw [← HW2.out]
  cases b1 with
  | false =>
    go_wp2_with fail
    go_ret
    exact ⟨rfl, HB2.out⟩
  | true =>
    obtain ⟨k0, k1, k2⟩ := seal_cells HB12.out HA.out
    go_wp2_with fail
    refine (HFw.out _ HB2.out).mono ?_
    rintro e w3 ⟨b2, rfl, hb2, hb⟩
    have HF := Lib.hid hb2
    have HB3 := Lib.hid (below_step HB2.out hb)
    have HB13 := Lib.hid (below_step HB12.out hb)
    clear hb hb2 k0 k1 k2
    cases b2 with
    | false =>
      go_wp2_with fail
      go_ret
      exact ⟨rfl, HB3.out⟩
    | true =>
      obtain ⟨k0, k1, k2⟩ := seal_cells HB13.out HA.out
      go_wp2_with fail
      refine (HVr.out (HF.out trivial) _ HB3.out).mono ?_
      rintro e w4 ⟨rfl, hb⟩
      have HB4 := Lib.hid (below_step HB3.out hb)
      clear hb k0 k1 k2
      go_wp2_with fail
      go_ret
      exact ⟨rfl, HB4.out⟩

theorem verify_parts {pub m : ByteArray} {idx : Int} {sig path : List ByteArray} (h : Sgn.verifyB pub m idx sig path = true) :
    sig.length = 18 ∧ path.length ≤ 8 ∧ (sig.all fun s => Dig.isB s.data.toList) = true ∧ (path.all fun s => Dig.isB s.data.toList) = true ∧ (∃ j : Nat, idx = j ∧ j < 2 ^ path.length ∧ Sgn.rootOf m j sig path = pub) := by
  unfold Sgn.verifyB Sgn.formB at h
  simp only [Bool.and_eq_true] at h
  obtain ⟨⟨⟨⟨⟨⟨h1, h2⟩, h3⟩, h4⟩, h5⟩, h6⟩, h7⟩ := h
  have h5 := of_decide_eq_true h5
  have h6 := of_decide_eq_true h6
  refine ⟨of_decide_eq_true h1, of_decide_eq_true h2, h3, h4, idx.toNat, by omega, by omega, of_decide_eq_true h7⟩
theorem verify_off {pub m : ByteArray} {idx : Int} {sig path : List ByteArray} (h : idx < 0 ∨ ((2 ^ path.length : Nat) : Int) ≤ idx) : Sgn.verifyB pub m idx sig path = false := by
  cases hv : Sgn.verifyB pub m idx sig path with
  | false => rfl
  | true =>
    obtain ⟨_, _, _, _, j, hj, hlt, _⟩ := verify_parts hv
    omega

set_option maxRecDepth 100000 in
set_option maxHeartbeats 8000000 in
theorem form_yes (pub : ByteArray) (hp : pub.size ≤ 140737488351232) (msg : ByteArray) (hm : msg.size ≤ 140737488351232) (j : Nat) (so po : Option Addr) (c1 c2 : Nat) (sig path : List ByteArray) (W : World) (hl : SealFine W j so po c1 c2 sig path) (ht : Tab W)
    (hv : Sgn.verifyB pub msg j sig path = true) :
    Calls Tryd.prog 9 #[.string pub, .string msg, .agg #[.int .i64 j, .slice so sig.length c1, .slice po path.length c2]] W fun e W' => e = .returned (.bool true) ∧ Below W.heap.size W W' := by
  obtain ⟨h18, h8, hi1, hi2, _, hj', hjp, hrt⟩ := verify_parts hv
  have hj' := Int.ofNat.inj hj'
  subst hj'
  have hz : ∀ {l : List ByteArray}, (l.all fun s => Dig.isB s.data.toList) = true → ∀ s ∈ l, s.size ≤ 140737488351232 := fun h s hs => by
    have : s.size = 16 := (Sgn.isB_parts (List.all_eq_true.1 h s hs)).1
    omega
  have HH : Hid (∀ X, Below W.heap.size W X → Calls Tryd.prog 10 #[] X fun e w' => e = .returned (.bool true) ∧ Below X.heap.size X w') := Lib.hid fun X hX => head_any X (ht.below hX)
  have HSh := Lib.hid (short2 pub msg hp hm)
  obtain ⟨b1, Hb1⟩ : ∃ b, Hid (b = (decide (pub.size ≤ 300) && decide (msg.size ≤ 300))) := ⟨_, Lib.hid rfl⟩
  rw [← Hb1.out] at HSh
  have HFw : Hid (∀ X, Below W.heap.size W X → Calls Tryd.prog 12 #[.agg #[.int .i64 j, .slice so sig.length c1, .slice po path.length c2]] X (FewPost X sig path)) := Lib.hid fun X hX =>
    few_any j so po c1 c2 sig path hl.z1 hl.z2 X (hl.is1.below hX) (hl.is2.below hX)
  have HVr : Hid (∀ X (i : Int) b, Sgn.verifyB pub msg i sig path = b → Below W.heap.size W X → Calls Tryd.prog 18 #[.string pub, .string msg, .agg #[.int .i64 i, .slice so sig.length c1, .slice po path.length c2]] X fun e w' => e = .returned (.bool b) ∧ Below X.heap.size X w') := Lib.hid fun X i b hb hX => by
    have := verify_any pub msg hm i so po c1 c2 sig path (by omega) (by omega) (hz hi1) (hz hi2) X (ht.below hX) (hl.is1.below hX) (hl.is2.below hX)
    rw [hb] at this
    exact this
  obtain ⟨p, Hp⟩ : ∃ n, Hid (n = path.length) := ⟨_, Lib.hid rfl⟩
  have HLess : Hid (∀ X, Calls Tryd.prog 18 #[.string pub, .string msg, .agg #[.int .i64 j, .slice so 17 c1, .slice po p c2]] X fun e w' => e = .returned (.bool false) ∧ Below X.heap.size X w') := Lib.hid fun X =>
    bad1 pub msg j so po c1 c2 17 p (by decide) (by decide) (by rw [Hp.out]; omega) X
  have HIs : Hid (∀ X, Calls Tryd.prog 20 #[.string pub] X fun e w' => e = .returned (.bool true) ∧ X = w') := Lib.hid fun X => by
    have := is_any pub hp X
    rw [show Dig.isB pub.data.toList = true by rw [← hrt]; exact Sgn.rootOf_is _ _ _ _] at this
    exact this
  have HI1 : Hid (∀ k, (h : k < 18) → ∀ X, Below W.heap.size W X → ∃ bk off s, so = some ⟨bk, off, none⟩ ∧ bk < W.heap.size ∧ X.cell? ⟨bk, off + k, none⟩ = some (.string s) ∧ ∀ Y, Calls Tryd.prog 20 #[.string s] Y fun e w' => e = .returned (.bool true) ∧ Y = w') := Lib.hid fun k hk X hX => by
    obtain ⟨bk, off, e, h1, h2⟩ := strs_at hl.is1 (k := k) (by omega)
    refine ⟨bk, off, _, e, h1, (hX.cell (p := ⟨bk, off + k, none⟩) h1).trans (h2 k (by omega)), fun Y => ?_⟩
    have hs := List.getElem_mem (l := sig) (n := k) (by omega)
    have := is_any sig[k] (hz hi1 _ hs) Y
    rw [List.all_eq_true.1 hi1 _ hs] at this
    exact this
  have HI2 : Hid (∀ k, (h : k < p) → ∀ X, Below W.heap.size W X → ∃ bk off s, po = some ⟨bk, off, none⟩ ∧ bk < W.heap.size ∧ X.cell? ⟨bk, off + k, none⟩ = some (.string s) ∧ ∀ Y, Calls Tryd.prog 20 #[.string s] Y fun e w' => e = .returned (.bool true) ∧ Y = w') := Lib.hid fun k hk X hX => by
    rw [Hp.out] at hk
    obtain ⟨bk, off, e, h1, h2⟩ := strs_at hl.is2 (k := k) hk
    refine ⟨bk, off, _, e, h1, (hX.cell (p := ⟨bk, off + k, none⟩) h1).trans (h2 k hk), fun Y => ?_⟩
    have hs := List.getElem_mem (l := path) (n := k) hk
    have := is_any path[k] (hz hi2 _ hs) Y
    rw [List.all_eq_true.1 hi2 _ hs] at this
    exact this
  have hc1 : 18 ≤ c1 := by have := hl.cap1.1; omega
  obtain ⟨N, HN⟩ : ∃ N, Hid (N = 2 ^ p) := ⟨_, Lib.hid rfl⟩
  have HFar : Hid (Sgn.verifyB pub msg ((j : Int) + N) sig path = false) := Lib.hid (verify_off (Or.inr (by rw [HN.out, Hp.out]; omega)))
  have HLow : Hid (Sgn.verifyB pub msg ((j : Int) - N) sig path = false) := Lib.hid (verify_off (Or.inl (by rw [HN.out, Hp.out]; omega)))
  have HGood := Lib.hid hv
  rw [h18, ← Hp.out] at HFw HVr ⊢
  rw [← Hp.out] at h8 hjp
  have hN : wrap64 ((2 : Int) ^ p) = (N : Int) := by rw [HN.out]; exact wrap_pow p h8
  rw [← HN.out] at hjp
  have hjN : (j : Int) < N := by omega
  have hN2 : N ≤ 256 := by rw [HN.out]; exact Nat.pow_le_pow_right (by decide) h8
  clear hl ht hv hp hm hi1 hi2 hz hrt h18
  have hp8 : (p : Int) ≤ 8 := by omega
  have hix : decide ((N : Int) ≤ j) = false := decide_eq_false (by omega)
  have hixn : decide (N ≤ j) = false := decide_eq_false (by omega)
  have hix0 : decide ((j : Int) < 0) = false := decide_eq_false (by omega)
  have hg8 : decide ((8 : Int) < p) = false := decide_eq_false (by omega)
  have hg8n : decide (8 < p) = false := decide_eq_false (by omega)
  go_enter Tryd.func9, Tryd.ntmps9
  go_wp2_with fail
  have hB0 : Below W.heap.size W (W.alloc (.cells #[.int .i64 j, .slice so 18 c1, .slice po p c2] 24)) := (Below.refl _ _).alloc (Nat.le_refl _) _
  refine (HH.out _ hB0).mono ?_
  rintro e w1 ⟨rfl, hb⟩
  have HB1 := Lib.hid (below_step hB0 hb)
  have HA := Lib.hid (show Whole w1 W.heap.size 24 #[.int .i64 j, .slice so 18 c1, .slice po p c2] from (hb.block _ (Whole.new _ _ _).lt).trans (Whole.new _ _ _))
  clear hb hB0
  go_wp2_with fail
  refine (HSh.out w1).mono ?_
  rintro e _ ⟨rfl, rfl⟩
  obtain ⟨W2, HW2⟩ : ∃ x, Hid (x = w1.alloc (.cells #[.string pub, .string msg] 9)) := ⟨_, Lib.hid rfl⟩
  have HB12 : Hid (Below w1.heap.size w1 W2) := Lib.hid (by rw [HW2.out]; exact (Below.refl _ _).alloc (Nat.le_refl _) _)
  have HB2 : Hid (Below W.heap.size W W2) := Lib.hid (below_step HB1.out HB12.out)
  rw [← HW2.out]
  cases b1 with
  | false =>
    go_wp2_with fail
    go_ret
    exact ⟨rfl, HB2.out⟩
  | true =>
    obtain ⟨k0, k1, k2⟩ := seal_cells HB12.out HA.out
    go_wp2_with fail
    refine (HFw.out _ HB2.out).mono ?_
    rintro e w3 ⟨b2, rfl, -, hb⟩
    have HB3 := Lib.hid (below_step HB2.out hb)
    have HB13 := Lib.hid (below_step HB12.out hb)
    clear hb k0 k1 k2
    cases b2 with
    | false =>
      go_wp2_with fail
      go_ret
      exact ⟨rfl, HB3.out⟩
    | true =>
      obtain ⟨k0, k1, k2⟩ := seal_cells HB13.out HA.out
      go_wp2_with fail
      refine (HVr.out _ j true HGood.out HB3.out).mono ?_
      rintro e w4 ⟨rfl, hb⟩
      have HB4 := Lib.hid (below_step HB3.out hb)
      have HB14 := Lib.hid (below_step HB13.out hb)
      clear hb k0 k1 k2
      obtain ⟨A, HAq⟩ : ∃ x, Hid (x = W.heap.size) := ⟨_, Lib.hid rfl⟩
      have HA4 : Hid (Whole w4 W.heap.size 24 #[.int .i64 j, .slice so 18 c1, .slice po p c2]) := Lib.hid ((HB14.out.block _ HA.out.lt).trans HA.out)
      have HA4 : Hid (Whole w4 A 24 #[.int .i64 j, .slice so 18 c1, .slice po p c2]) := by rw [HAq.out]; exact HA4
      rw [← HAq.out]
      obtain ⟨k0, k1, k2⟩ := seal_cells (Below.refl _ _) HA4.out
      have e0 : ∀ X : Grown w4, X.w.cell? ⟨A, 0, none⟩ = some (.int .i64 j) := fun X => (seal_cells X.below HA4.out).1
      have e1 : ∀ X : Grown w4, X.w.cell? ⟨A, 1, none⟩ = some (.slice so 18 c1) := fun X => (seal_cells X.below HA4.out).2.1
      have e2 : ∀ X : Grown w4, X.w.cell? ⟨A, 2, none⟩ = some (.slice po p c2) := fun X => (seal_cells X.below HA4.out).2.2
      go_wp2_with fail
      refine wp_region_grown (by kernel_rfl) (by kernel_rfl) ?_
      repeat (go_big_quiet_step (exact grown_of_same (HIs.out _)))
      refine wpQuiet_nil ?_
      rintro _ ⟨X, rfl⟩
      obtain ⟨W5, HW5⟩ : ∃ y, Hid (y = X.w) := ⟨_, Lib.hid rfl⟩
      have HB45 : Hid (Below w4.heap.size w4 W5) := Lib.hid (by rw [HW5.out]; exact X.below)
      have HB5 : Hid (Below W.heap.size W W5) := Lib.hid (below_step HB4.out HB45.out)
      have HA5 : Hid (Whole W5 A 24 #[.int .i64 j, .slice so 18 c1, .slice po p c2]) := Lib.hid ((HB45.out.block _ HA4.out.lt).trans HA4.out)
      rw [← HW5.out]
      clear e0 e1 e2 k0 k1 k2
      obtain ⟨k0, k1, k2⟩ := seal_cells (Below.refl _ _) HA5.out
      go_wp2_with fail
      try simp only [hN]
      go_loop [8] (fun i => ∃ k : Nat, k ≤ 18 ∧ i = .int .i64 k ∧ Hid (Okn k)) (fun i => 18 - (intOf i).toNat)
      case atStart => exact ⟨0, by omega, rfl, okn _⟩
      case round =>
        obtain ⟨k, hk, rfl, -⟩ := hrel
        by_cases hlt : k < 18
        · have hlt' : (k : Int) < 18 := by omega
          obtain ⟨bk, off, s, rfl, -, d1, hIs⟩ := HI1.out k hlt W5 HB5.out
          have HI := Lib.hid hIs
          clear hIs
          go_wp2_with fail
          refine (HI.out _).mono ?_
          rintro e _ ⟨rfl, rfl⟩
          go_wp2
          go_round
          case rel => exact ⟨k + 1, by omega, by go_num, okn _⟩
          case measure => simp [intOf]; omega
        · obtain rfl : k = 18 := by omega
          go_wp2_with fail
          go_loop [9] (fun i => ∃ k : Nat, k ≤ p ∧ i = .int .i64 k ∧ Hid (Okn k)) (fun i => p - (intOf i).toNat)
          case atStart => exact ⟨0, by omega, rfl, okn _⟩
          case round =>
            obtain ⟨k, hk, rfl, -⟩ := hrel
            by_cases hlt : k < p
            · have hlt' : (k : Int) < p := by omega
              obtain ⟨bk, off, s, rfl, -, d1, hIs⟩ := HI2.out k hlt W5 HB5.out
              have HI := Lib.hid hIs
              clear hIs
              go_wp2_with fail
              refine (HI.out _).mono ?_
              rintro e _ ⟨rfl, rfl⟩
              go_wp2
              go_round
              case rel => exact ⟨k + 1, by omega, by go_num, okn _⟩
              case measure => simp [intOf]; omega
            · obtain rfl : p = k := by omega
              have hA5 := HA5.out.lt
              have n0 : ¬ A = W5.heap.size := by omega
              have n1 : ¬ A = W5.heap.size + 1 := by omega
              have n2 : ¬ A = W5.heap.size + 1 + 1 := by omega
              have n3 : A < W5.heap.size + 1 := by omega
              have n4 : A < W5.heap.size + 1 + 1 := by omega
              have hw1 : IntKind.i64.wrap ((j : Int) + N) = (j : Int) + N := by rw [IntKind.wrap_i64]; omega
              have hw2 : IntKind.i64.wrap ((j : Int) - N) = (j : Int) - N := by rw [IntKind.wrap_i64]; omega
              go_wp2_with fail
              obtain ⟨W6, HW6⟩ : ∃ x, Hid (x = (W5.alloc (.cells #[.int .i64 j, .slice so 17 c1, .slice po p c2] 24)).alloc (.cells #[.int .i64 j, .slice so 18 c1, .slice po p c2] 24)) := ⟨_, Lib.hid rfl⟩
              have HB56 : Hid (Below W5.heap.size W5 W6) := Lib.hid (by
                rw [HW6.out]
                exact ((Below.refl _ _).alloc (Nat.le_refl _) _).alloc (by rw [size_alloc]; omega) _)
              have HL6 : Hid (Whole W6 W5.heap.size 24 #[.int .i64 j, .slice so 17 c1, .slice po p c2]) := Lib.hid (by
                rw [HW6.out]
                exact (Whole.new _ _ _).alloc _)
              have HF6 : Hid (Whole W6 (W5.heap.size + 1) 24 #[.int .i64 j, .slice so 18 c1, .slice po p c2]) := Lib.hid (by
                rw [HW6.out]
                have := Whole.new (W5.alloc (.cells #[.int .i64 j, .slice so 17 c1, .slice po p c2] 24)) 24 #[.int .i64 j, .slice so 18 c1, .slice po p c2]
                rwa [size_alloc] at this)
              rw [← HW6.out]
              have HA6 : Hid (Whole W6 A 24 #[.int .i64 j, .slice so 18 c1, .slice po p c2]) := Lib.hid ((HB56.out.block _ HA5.out.lt).trans HA5.out)
              obtain ⟨L, HLq⟩ : ∃ x, Hid (x = W5.heap.size) := ⟨_, Lib.hid rfl⟩
              obtain ⟨F, HFq⟩ : ∃ x, Hid (x = W5.heap.size + 1) := ⟨_, Lib.hid rfl⟩
              have hLF : L < F := by rw [HLq.out, HFq.out]; omega
              have hAL : A < L := by rw [HLq.out]; exact hA5
              rw [← HLq.out] at HL6
              rw [← HFq.out] at HF6 ⊢
              rw [← HLq.out]
              clear HW6 k0 k1 k2 n0 n1 n2 n3 n4
              obtain ⟨k0, k1, k2⟩ := seal_cells (Below.refl _ _) HA6.out
              have l0 := HF6.out.cell 0
              have l1 := HF6.out.frozen 0
              simp only [List.getElem?_toArray, List.getElem?_cons_zero] at l0
              refine wp_region_quiet_tail 7 (by kernel_rfl) (by kernel_rfl) ?_
              simp only [List.take_succ_cons, List.take_zero, List.drop_succ_cons, List.drop_zero]
              repeat (go_big_quiet_step (fail))
              refine wpQuiet_nil ?_
              have n0 : ¬ A = F := by omega
              have n1 : ¬ A = W6.heap.size := by have := HF6.out.lt; omega
              have n2 : ¬ F = W6.heap.size := by have := HF6.out.lt; omega
              go_wp2_with fail
              obtain ⟨W7, HW7⟩ : ∃ x, Hid (x = ((W6.setCell ⟨F, 0, none⟩ (.int .i64 ((j : Int) + N))).alloc (.cells #[.int .i64 j, .slice so 18 c1, .slice po p c2] 24)).drew) := ⟨_, Lib.hid rfl⟩
              have HB67 : Hid (Below W5.heap.size W6 W7) := Lib.hid (by
                rw [HW7.out]
                exact (((Below.refl _ _).setCell (p := ⟨F, 0, none⟩) (by show _ ≤ F; rw [HFq.out]; omega) _).alloc (by rw [World.size_setCell]; exact HB56.out.size) _).drew)
              have HL7 : Hid (Whole W7 L 24 #[.int .i64 j, .slice so 17 c1, .slice po p c2]) := Lib.hid (by
                rw [HW7.out]
                exact ((HL6.out.far (p := ⟨F, 0, none⟩) (by show ¬ L = F; omega) _).alloc _).drew)
              have HF7 : Hid (Whole W7 F 24 #[.int .i64 ((j : Int) + N), .slice so 18 c1, .slice po p c2]) := Lib.hid (by
                rw [HW7.out]
                exact ((HF6.out.set 0 _).alloc _).drew)
              have HA7 : Hid (Whole W7 A 24 #[.int .i64 j, .slice so 18 c1, .slice po p c2]) := Lib.hid (by
                rw [HW7.out]
                exact ((HA6.out.far (p := ⟨F, 0, none⟩) (by show ¬ A = F; omega) _).alloc _).drew)
              obtain ⟨G, HGq⟩ : ∃ x, Hid (x = W6.heap.size) := ⟨_, Lib.hid rfl⟩
              have HG7 : Hid (Whole W7 G 24 #[.int .i64 j, .slice so 18 c1, .slice po p c2]) := Lib.hid (by
                rw [HW7.out, HGq.out]
                have := Whole.new (W6.setCell ⟨F, 0, none⟩ (.int .i64 ((j : Int) + N))) 24 #[.int .i64 j, .slice so 18 c1, .slice po p c2]
                rw [World.size_setCell] at this
                exact this.drew)
              have hFG : F < G := by rw [HGq.out]; exact HF6.out.lt
              rw [← HW7.out]
              rw [← HGq.out]
              clear HW7 k0 k1 k2 n0 n1 n2 l0 l1
              obtain ⟨k0, k1, k2⟩ := seal_cells (Below.refl _ _) HA7.out
              have l0 := HG7.out.cell 0
              have l1 := HG7.out.frozen 0
              simp only [List.getElem?_toArray, List.getElem?_cons_zero] at l0
              refine wp_region_quiet_tail 7 (by kernel_rfl) (by kernel_rfl) ?_
              simp only [List.take_succ_cons, List.take_zero, List.drop_succ_cons, List.drop_zero]
              repeat (go_big_quiet_step (fail))
              refine wpQuiet_nil ?_
              have n0 : ¬ L = G := by omega
              have n1 : ¬ F = G := by omega
              have n2 : ¬ A = G := by omega
              have HL8 : Hid (Whole (W7.setCell ⟨G, 0, none⟩ (.int .i64 ((j : Int) - N))).drew L 24 #[.int .i64 j, .slice so 17 c1, .slice po p c2]) := Lib.hid (HL7.out.far (p := ⟨G, 0, none⟩) n0 _).drew
              have HF8 : Hid (Whole (W7.setCell ⟨G, 0, none⟩ (.int .i64 ((j : Int) - N))).drew F 24 #[.int .i64 ((j : Int) + N), .slice so 18 c1, .slice po p c2]) := Lib.hid (HF7.out.far (p := ⟨G, 0, none⟩) n1 _).drew
              have HG8 : Hid (Whole (W7.setCell ⟨G, 0, none⟩ (.int .i64 ((j : Int) - N))).drew G 24 #[.int .i64 ((j : Int) - N), .slice so 18 c1, .slice po p c2]) := Lib.hid (HG7.out.set 0 _).drew
              have HB8 : Hid (Below W.heap.size W (W7.setCell ⟨G, 0, none⟩ (.int .i64 ((j : Int) - N))).drew) := Lib.hid (by
                have h1 : Below W5.heap.size W6 (W7.setCell ⟨G, 0, none⟩ (.int .i64 ((j : Int) - N))).drew := (HB67.out.setCell (p := ⟨G, 0, none⟩) (by show _ ≤ G; rw [HGq.out]; exact HB56.out.size) _).drew
                exact HB5.out.trans ((HB56.out.trans h1).mono HB5.out.size))
              have m0 := HL7.out.cell 0
              have m1 := HL7.out.cell 1
              have m2 := HL7.out.cell 2
              simp only [List.getElem?_toArray, List.getElem?_cons_zero, List.getElem?_cons_succ] at m0 m1 m2
              go_wp2_with fail
              generalize (W7.setCell ⟨G, 0, none⟩ (.int .i64 ((j : Int) - N))).drew = W8 at HL8 HF8 HG8 HB8 ⊢
              refine (HLess.out _).mono ?_
              rintro e w9 ⟨rfl, hb⟩
              have HB9 := Lib.hid hb
              clear hb k0 k1 k2 l0 l1 m0 m1 m2
              have HF9 := Lib.hid ((HB9.out.block _ HF8.out.lt).trans HF8.out)
              have m0 : w9.cell? ⟨F, 0, none⟩ = some (.int .i64 ((j : Int) + N)) := (seal_cells HB9.out HF8.out).1
              have m1 := (seal_cells HB9.out HF8.out).2.1
              have m2 := (seal_cells HB9.out HF8.out).2.2
              go_wp2_with fail
              refine (HVr.out _ _ _ HFar.out (below_step HB8.out HB9.out)).mono ?_
              rintro e w10 ⟨rfl, hb⟩
              have HB10 := Lib.hid (below_step HB9.out hb)
              clear hb m0 m1 m2
              have m0 := (seal_cells HB10.out HG8.out).1
              have m1 := (seal_cells HB10.out HG8.out).2.1
              have m2 := (seal_cells HB10.out HG8.out).2.2
              go_wp2_with fail
              refine (HVr.out _ _ _ HLow.out (below_step HB8.out HB10.out)).mono ?_
              rintro e w11 ⟨rfl, hb⟩
              have HB11 := Lib.hid (below_step HB8.out (below_step HB10.out hb))
              clear hb m0 m1 m2
              go_wp2_with fail
              go_ret
              exact ⟨rfl, HB11.out⟩

theorem form_any (pub : ByteArray) (hp : pub.size ≤ 140737488351232) (msg : ByteArray) (hm : msg.size ≤ 140737488351232) (idx : Int) (so po : Option Addr) (c1 c2 : Nat) (sig path : List ByteArray) (W : World) (hl : SealFine W idx so po c1 c2 sig path) (ht : Tab W) :
    Calls Tryd.prog 9 #[.string pub, .string msg, .agg #[.int .i64 idx, .slice so sig.length c1, .slice po path.length c2]] W fun e W' => e = .returned (.bool true) ∧ Below W.heap.size W W' := by
  cases hv : Sgn.verifyB pub msg idx sig path with
  | false => exact form_no pub hp msg hm idx so po c1 c2 sig path W hl ht hv
  | true =>
    obtain ⟨_, _, _, _, j, rfl, _⟩ := verify_parts hv
    exact form_yes pub hp msg hm j so po c1 c2 sig path W hl ht hv

end Go.Proofs.YtfnbdjjobndgfaaDoor
