/- The head of the laws on signatures. -/
import Derived.Test.YtfnbdjjobndgfaaDoorSgnSign
import Derived.Test.YtfnbdjjobndgfaaDoorSgnSignBad
import Derived.Test.YtfnbdjjobndgfaaDoorSgnBad
import Derived.Test.YtfnbdjjobndgfaaDoorSgnPublic
import Derived.Test.YtfnbdjjobndgfaaDoorSgnFew
namespace Go.Proofs.YtfnbdjjobndgfaaDoor
open Go.RowKit

def secT : ByteArray := ⟨#[115, 101, 99, 114, 101, 116]⟩
def msgT : ByteArray := ⟨#[109, 101, 115, 115, 97, 103, 101]⟩

theorem IsStrs.take {w : World} {ao : Option Addr} {ss : List ByteArray} (h : IsStrs w ao ss) (k : Nat) : IsStrs w ao (ss.take k) := by
  rcases h with h | ⟨bk, off, h1, h2, h3⟩
  · subst h; exact Or.inl (by simp)
  · refine Or.inr ⟨bk, off, h1, h2, fun q hq => ?_⟩
    rw [List.getElem_take]
    exact h3 q (by rw [List.length_take] at hq; omega)

set_option maxRecDepth 100000 in
set_option maxHeartbeats 4000000 in
theorem head_any (w : World) (ht : Tab w) :
    Calls Tryd.prog 10 #[] w fun e w' => e = .returned (.bool true) ∧ Below w.heap.size w w' := by
  have HT := Lib.hid ht
  obtain ⟨pub, Hpub⟩ : ∃ x, Hid (x = Sgn.rootV secT 2) := ⟨_, Lib.hid rfl⟩
  obtain ⟨sig, Hsig⟩ : ∃ x, Hid (x = Sgn.sigV secT 3 msgT) := ⟨_, Lib.hid rfl⟩
  obtain ⟨path, Hpath⟩ : ∃ x, Hid (x = Sgn.pathV secT 2 3) := ⟨_, Lib.hid rfl⟩
  have HP1 := Lib.hid (public_good secT (by decide) 2 (by decide) w ht)
  rw [← Hpub.out] at HP1
  have HP2 := Lib.hid fun (X : World) => public_bad secT 9 (by decide) X
  have HS1 := Lib.hid fun (X : World) (hX : Below w.heap.size w X) => callsIn_wide.1 (sign_good secT msgT (by decide) (by decide) 2 3 (by decide) (by decide) X (HT.out.below hX))
  rw [← Hsig.out, ← Hpath.out] at HS1
  have HS2 := Lib.hid fun (X : World) => (show Calls Tryd.prog 15 #[.string secT, .int .i64 2, .int .i64 4, .string msgT] X (fun e w' => e = .returned (.tuple #[.agg #[.int .i64 0, .slice none 0 0, .slice none 0 0], .int .i64 1]) ∧ Below X.heap.size X w') from sign_bad secT msgT 2 4 (Or.inr (Or.inr ⟨2, rfl, by decide, by decide⟩)) X)
  have hl1 : sig.length = 18 := by rw [Hsig.out, Sgn.sig_len]
  have hl2 : path.length = 2 := by rw [Hpath.out, Sgn.path_len]
  have hi1 : (sig.all fun s => Dig.isB s.data.toList) = true := by rw [Hsig.out]; exact Sgn.sig_is _ _ _
  have hi2 : (path.all fun s => Dig.isB s.data.toList) = true := by rw [Hpath.out]; exact Sgn.path_is _ _ _ (by decide) (by decide)
  have hz : ∀ {l : List ByteArray}, (l.all fun s => Dig.isB s.data.toList) = true → ∀ s ∈ l, s.size ≤ 140737488351232 := fun h s hs => by
    have : s.size = 16 := (Sgn.isB_parts (List.all_eq_true.1 h s hs)).1
    omega
  have hv1 : Sgn.verifyB pub msgT 3 sig path = true := by rw [Hpub.out, Hsig.out, Hpath.out]; exact Sgn.verify_sig secT 2 3 msgT (by decide) (by decide)
  have hv2 : Sgn.verifyB pub msgT 3 sig (path.take 1) = false := by
    unfold Sgn.verifyB Sgn.formB
    rw [List.length_take, hl2, decide_eq_false (show ¬ (3 : Int) < ((2 ^ (min 1 2) : Nat) : Int) by decide)]
    simp
  have hv4 : Sgn.verifyB ⟨#[]⟩ msgT 3 sig path = false := by
    unfold Sgn.verifyB
    rw [decide_eq_false (fun h => by
      have := Sgn.rootOf_size msgT (Int.toNat 3) sig path
      rw [h] at this
      cases this), Bool.and_false]
  have HV : Hid (∀ (X : World) (p : ByteArray) (b : Bool) (so po : Option Addr) (c1 c2 : Nat), Tab X → Sgn.verifyB p msgT 3 sig path = b → IsStrs X so sig → IsStrs X po path → Calls Tryd.prog 18 #[.string p, .string msgT, .agg #[.int .i64 3, .slice so 18 c1, .slice po 2 c2]] X fun e w' => e = .returned (.bool b) ∧ Below X.heap.size X w') := Lib.hid fun X p b so po c1 c2 hX hb h1 h2 => by
    have := verify_any p msgT (by decide) 3 so po c1 c2 sig path (by omega) (by omega) (hz hi1) (hz hi2) X hX h1 h2
    rw [hl1, hl2, hb] at this
    exact this
  have HV2 : Hid (∀ (X : World) (so po : Option Addr) (c1 c2 : Nat), Tab X → IsStrs X so sig → IsStrs X po path → Calls Tryd.prog 18 #[.string pub, .string msgT, .agg #[.int .i64 3, .slice so 18 c1, .slice po 1 c2]] X fun e w' => e = .returned (.bool false) ∧ Below X.heap.size X w') := Lib.hid fun X so po c1 c2 hX h1 h2 => by
    have := verify_any pub msgT (by decide) 3 so po c1 c2 sig (path.take 1) (by omega) (by rw [List.length_take]; omega) (hz hi1) (fun s hs => hz hi2 s (List.mem_of_mem_take hs)) X hX h1 (h2.take 1)
    rw [hl1, List.length_take, hl2, hv2] at this
    exact this
  have HV3 : Hid (∀ (X : World) (so po : Option Addr) (c1 c2 : Nat), Calls Tryd.prog 18 #[.string pub, .string msgT, .agg #[.int .i64 3, .slice so 17 c1, .slice po 2 c2]] X fun e w' => e = .returned (.bool false) ∧ Below X.heap.size X w') := Lib.hid fun X so po c1 c2 =>
    bad1 pub msgT 3 so po c1 c2 17 2 (by decide) (by decide) (by decide) X
  have Hv1 := Lib.hid hv1
  have Hv4 := Lib.hid hv4
  clear hl1 hl2 hi1 hi2 hz hv1 hv2 hv4
  clear ht
  go_enter Tryd.func10, Tryd.ntmps10
  go_wp2_with fail
  refine HP1.out.mono ?_
  rintro e w1 ⟨rfl, hb⟩
  have HB1 := Lib.hid hb
  clear hb
  go_wp2_with fail
  refine (HP2.out _).mono ?_
  rintro e w2 ⟨rfl, hb⟩
  have HB2 := Lib.hid (HB1.out.trans (hb.mono HB1.out.size))
  clear hb
  go_wp2_with fail
  refine (HS1.out _ HB2.out).mono ?_
  rintro e w3 ⟨⟨so, po, c1, c2, rfl, hs1, hs2, hc1, hc2⟩, hb⟩
  have HB3 := Lib.hid (HB2.out.trans (hb.mono HB2.out.size))
  have HA1 := Lib.hid hs1
  have HA2 := Lib.hid hs2
  clear hb hs1 hs2
  go_wp2_with fail
  refine (HS2.out _).mono ?_
  rintro e w4 ⟨rfl, hb⟩
  have h34 := hb
  clear hb
  have q0 : w4.cell? ⟨w3.heap.size, 0, none⟩ = some (.int .i64 3) := by rw [h34.cell (p := ⟨w3.heap.size, 0, none⟩) (by show w3.heap.size < _; rw [size_alloc]; omega), cell_alloc, if_pos rfl]; rfl
  have q1 : w4.cell? ⟨w3.heap.size, 1, none⟩ = some (.slice so 18 c1) := by rw [h34.cell (p := ⟨w3.heap.size, 1, none⟩) (by show w3.heap.size < _; rw [size_alloc]; omega), cell_alloc, if_pos rfl]; rfl
  have q2 : w4.cell? ⟨w3.heap.size, 2, none⟩ = some (.slice po 2 c2) := by rw [h34.cell (p := ⟨w3.heap.size, 2, none⟩) (by show w3.heap.size < _; rw [size_alloc]; omega), cell_alloc, if_pos rfl]; rfl
  have HB4 : Hid (Below w3.heap.size w3 w4) := Lib.hid ((Below.refl _ _).alloc (Nat.le_refl _) _ |>.trans (h34.mono (by rw [size_alloc]; omega)))
  obtain ⟨A, HAq⟩ : ∃ x, Hid (x = w3.heap.size) := ⟨_, Lib.hid rfl⟩
  have hA4 : A < w4.heap.size := by rw [HAq.out]; exact lt_of_cell q0
  rw [← HAq.out] at q0 q1 q2 ⊢
  have n0 : ¬ A = w4.heap.size := by omega
  have n1 : ¬ A = w4.heap.size + 1 := by omega
  have n2 : ¬ A = w4.heap.size + 1 + 1 := by omega
  have n3 : A < w4.heap.size + 1 := by omega
  have n4 : A < w4.heap.size + 1 + 1 := by omega
  clear h34
  go_wp2_with fail
  generalize hso : Option.map _ so = so'
  clear hso
  obtain ⟨W5, HW5⟩ : ∃ x, Hid (x = ((w4.alloc (.cells #[.int .i64 0, .slice none 0 0, .slice none 0 0] 24)).alloc (.cells #[.int .i64 3, .slice so 18 c1, .slice po 1 c2] 24)).alloc (.cells #[.int .i64 3, .slice so' 17 (c1 - 1), .slice po 2 c2] 24)) := ⟨_, Lib.hid rfl⟩
  have HB5 : Hid (Below w4.heap.size w4 W5) := Lib.hid (by
    rw [HW5.out]
    exact (((Below.refl _ _).alloc (Nat.le_refl _) _).alloc (by rw [size_alloc]; omega) _).alloc (by rw [size_alloc, size_alloc]; omega) _)
  have HS1' : Hid (Whole W5 (w4.heap.size + 1) 24 #[.int .i64 3, .slice so 18 c1, .slice po 1 c2]) := Lib.hid (by
    rw [HW5.out]
    have := (Whole.new (w4.alloc (.cells #[.int .i64 0, .slice none 0 0, .slice none 0 0] 24)) 24 #[.int .i64 3, .slice so 18 c1, .slice po 1 c2]).alloc (.cells #[.int .i64 3, .slice so' 17 (c1 - 1), .slice po 2 c2] 24)
    rwa [size_alloc] at this)
  have HS2' : Hid (Whole W5 (w4.heap.size + 1 + 1) 24 #[.int .i64 3, .slice so' 17 (c1 - 1), .slice po 2 c2]) := Lib.hid (by
    rw [HW5.out]
    have := Whole.new ((w4.alloc (.cells #[.int .i64 0, .slice none 0 0, .slice none 0 0] 24)).alloc (.cells #[.int .i64 3, .slice so 18 c1, .slice po 1 c2] 24)) 24 #[.int .i64 3, .slice so' 17 (c1 - 1), .slice po 2 c2]
    rwa [size_alloc, size_alloc] at this)
  rw [← HW5.out]
  obtain ⟨S1, HSq1⟩ : ∃ x, Hid (x = w4.heap.size + 1) := ⟨_, Lib.hid rfl⟩
  obtain ⟨S2, HSq2⟩ : ∃ x, Hid (x = w4.heap.size + 1 + 1) := ⟨_, Lib.hid rfl⟩
  rw [← HSq2.out] at HS2' ⊢
  rw [← HSq1.out] at HS1' ⊢
  clear HW5
  have H35 : Hid (Below w3.heap.size w3 W5) := Lib.hid (HB4.out.trans (HB5.out.mono HB4.out.size))
  have HC : Hid (∀ X, Below W5.heap.size W5 X → Tab X ∧ IsStrs X so sig ∧ IsStrs X po path ∧ Below w.heap.size w X ∧ (X.cell? ⟨A, 0, none⟩ = some (.int .i64 3) ∧ X.cell? ⟨A, 1, none⟩ = some (.slice so 18 c1) ∧ X.cell? ⟨A, 2, none⟩ = some (.slice po 2 c2)) ∧
      Whole X S1 24 #[.int .i64 3, .slice so 18 c1, .slice po 1 c2] ∧ Whole X S2 24 #[.int .i64 3, .slice so' 17 (c1 - 1), .slice po 2 c2]) := Lib.hid fun X hX => by
    have h3 := below_step H35.out hX
    have h4 := below_step HB5.out hX
    have hw := HB3.out.trans (h3.mono HB3.out.size)
    exact ⟨HT.out.below hw, HA1.out.below h3, HA2.out.below h3, hw, ⟨(h4.cell (p := ⟨A, 0, none⟩) hA4).trans q0, (h4.cell (p := ⟨A, 1, none⟩) hA4).trans q1, (h4.cell (p := ⟨A, 2, none⟩) hA4).trans q2⟩, (hX.block _ HS1'.out.lt).trans HS1'.out, (hX.block _ HS2'.out.lt).trans HS2'.out⟩
  clear q0 q1 q2 n0 n1 n2 n3 n4 hA4
  obtain ⟨t5, i5, j5, -, -, -, -⟩ := HC.out W5 (Below.refl _ _)
  refine (HV.out W5 pub true so po c1 c2 t5 Hv1.out i5 j5).mono ?_
  clear t5 i5 j5
  rintro e w6 ⟨rfl, hb⟩
  have HB6 := Lib.hid hb
  clear hb
  obtain ⟨t6, i6, j6, -, -, h1, -⟩ := HC.out w6 HB6.out
  have k0 := h1.cell 0
  have k1 := h1.cell 1
  have k2 := h1.cell 2
  simp only [List.getElem?_toArray, List.getElem?_cons_zero, List.getElem?_cons_succ] at k0 k1 k2
  have T6 := Lib.hid (And.intro t6 (And.intro i6 j6))
  clear t6 i6 j6 h1
  go_wp2_with fail
  refine (HV2.out w6 so po c1 c2 T6.out.1 T6.out.2.1 T6.out.2.2).mono ?_
  rintro e w7 ⟨rfl, hb⟩
  have HB7 := Lib.hid (below_step HB6.out hb)
  clear hb k0 k1 k2
  obtain ⟨-, -, -, -, -, -, h2⟩ := HC.out w7 HB7.out
  have k0 := h2.cell 0
  have k1 := h2.cell 1
  have k2 := h2.cell 2
  simp only [List.getElem?_toArray, List.getElem?_cons_zero, List.getElem?_cons_succ] at k0 k1 k2
  clear h2
  go_wp2_with fail
  refine (HV3.out w7 so' po (c1 - 1) c2).mono ?_
  rintro e w8 ⟨rfl, hb⟩
  have HB8 := Lib.hid (below_step HB7.out hb)
  clear hb k0 k1 k2
  obtain ⟨t8, i8, j8, -, ⟨k0, k1, k2⟩, -, -⟩ := HC.out w8 HB8.out
  have T8 := Lib.hid (And.intro t8 (And.intro i8 j8))
  clear t8 i8 j8
  go_wp2_with fail
  refine (HV.out w8 ⟨#[]⟩ false so po c1 c2 T8.out.1 Hv4.out T8.out.2.1 T8.out.2.2).mono ?_
  rintro e w9 ⟨rfl, hb⟩
  have HB9 := Lib.hid (below_step HB8.out hb)
  clear hb k0 k1 k2
  obtain ⟨-, -, -, hw, -, -, -⟩ := HC.out w9 HB9.out
  have HW9 := Lib.hid hw
  clear hw
  go_wp2_with fail
  go_ret
  exact ⟨rfl, HW9.out⟩

end Go.Proofs.YtfnbdjjobndgfaaDoor
