/- The statement that each bound of a sum, difference, product and join is a result of two bounds: its walk. -/
import Derived.Test.YtijnnfioggjaeaaIvlHead
import Derived.Test.YtijnnfioggjaeaaIvlWalksC
import Derived.Test.YtijnnfioggjaeaaIvlWalksE
import Derived.Test.YtijnnfioggjaeaaIvlRefA
import Derived.Test.YtijnnfioggjaeaaIvlKeep
import Derived.Test.YtijnnfioggjaeaaIvlFresh
import Derived.Test.YtijnnfioggjaeaaIvlMathC
import Derived.Test.YtijnnfioggjaeaaTwo
import Derived.Test.YtijnnfioggjaeaaQuietTail
import Derived.Deep.CutRange
namespace Go.Proofs.Ytijnnfioggjaeaa
open Go.RowKit

theorem bd_two {w w2 : World} {o1 o2 : Obj} (h : Below ((w.alloc o1).alloc o2).heap.size ((w.alloc o1).alloc o2) w2) : Below w.heap.size w w2 :=
  (((Below.refl _ _).alloc (Nat.le_refl _) _).alloc (by rw [size_alloc]; omega) _).trans (h.mono (by rw [size_alloc, size_alloc]; omega))

/-- What one round finds. -/
def bdP (P M T J : Int × Int) (x y : Int) (q : Nat) : Bool :=
  match q with
  | 0 => P.1 == Ivl.sat (x + y)
  | 1 => P.2 == Ivl.sat (x + y)
  | 2 => M.1 == Ivl.sat (x - y)
  | 3 => M.2 == Ivl.sat (x - y)
  | 4 => T.1 == Ivl.times x y
  | 5 => T.2 == Ivl.times x y
  | 6 => (J.1 == x) || (J.1 == y)
  | _ => (J.2 == x) || (J.2 == y)
def sel (l h : Int) (i : Nat) : Int := if i = 0 then l else h
/-- What is found after n rounds. -/
def bdAcc (p : Nat → Nat → Nat → Bool) : Nat → Nat → Bool
  | 0, _ => false
  | n + 1, q => bdAcc p n q || p (n / 2) (n % 2) q
def mix (f p : Nat → Bool) (m q : Nat) : Bool := if q < m then f q || p q else f q
theorem mix_zero (f p : Nat → Bool) : mix f p 0 = f := by funext q; unfold mix; rw [if_neg (by omega)]
theorem mix_end {f p g : Nat → Bool} (h : ∀ q, g q = (f q || p q)) : ∀ q, q < 8 → mix f p 8 q = g q := fun q hq => by unfold mix; rw [if_pos hq, h]

/-- The cells that the loops use. -/
def Bst (al ah bl bh : Int) (P M T J : Int × Int) (b0 b1 b2 b3 bx bY bf : Nat) (B : World) (f : Nat → Bool) (W : World) : Prop :=
  Below B.heap.size B W ∧ Two W b0 P.1 P.2 ∧ Two W b1 M.1 M.2 ∧ Two W b2 T.1 T.2 ∧ Two W b3 J.1 J.2 ∧ Two W bx al ah ∧ Two W bY bl bh ∧
  ∀ q, q < 8 → W.cell? ⟨bf, q, none⟩ = some (.bool (f q)) ∧ W.frozen? ⟨bf, q, none⟩ = false
section
variable {al ah bl bh : Int} {P M T J : Int × Int} {b0 b1 b2 b3 bx bY bf : Nat} {B W W' : World} {f g p : Nat → Bool}
theorem Bst.lt (h : Bst al ah bl bh P M T J b0 b1 b2 b3 bx bY bf B f W) : bf < W.heap.size := lt_of_cell (h.2.2.2.2.2.2.2 0 (by omega)).1
theorem Bst.below (h : Bst al ah bl bh P M T J b0 b1 b2 b3 bx bY bf B f W) (hb : Below W.heap.size W W') : Bst al ah bl bh P M T J b0 b1 b2 b3 bx bY bf B f W' := by
  have hl := h.lt
  obtain ⟨h1, h2, h3, h4, h5, h6, h7, h8⟩ := h
  exact ⟨below_step h1 hb, h2.below hb, h3.below hb, h4.below hb, h5.below hb, h6.below hb, h7.below hb, fun q hq =>
    ⟨(hb.cell (p := ⟨bf, q, none⟩) hl).trans (h8 q hq).1, (hb.frozen (p := ⟨bf, q, none⟩) hl).trans (h8 q hq).2⟩⟩
theorem Bst.same (h : Bst al ah bl bh P M T J b0 b1 b2 b3 bx bY bf B f W) (hf : ∀ q, q < 8 → f q = g q) : Bst al ah bl bh P M T J b0 b1 b2 b3 bx bY bf B g W := by
  obtain ⟨h1, h2, h3, h4, h5, h6, h7, h8⟩ := h
  exact ⟨h1, h2, h3, h4, h5, h6, h7, fun q hq => by rw [← hf q hq]; exact h8 q hq⟩
theorem Two.set {W : World} {b c : Nat} {x y : Int} {q : Nat} {v : Value} (h : Two W b x y) (hne : c ≠ b) : Two (W.setCell ⟨c, q, none⟩ v) b x y :=
  ⟨by rw [World.cell?_setCell_other _ _ _ _ (by simp [hne])]; exact h.1, by rw [World.cell?_setCell_other _ _ _ _ (by simp [hne])]; exact h.2⟩
/-- One flag is set. -/
theorem Bst.set {g' : Nat} (h : Bst al ah bl bh P M T J b0 b1 b2 b3 bx bY bf B (mix f p g') W) (hB : B.heap.size ≤ bf) (n0 : b0 < bf) (n1 : b1 < bf) (n2 : b2 < bf) (n3 : b3 < bf) (nx : bx < bf) (ny : bY < bf) (hg : g' < 8) {v : Bool} (hv : v = (f g' || p g')) :
    Bst al ah bl bh P M T J b0 b1 b2 b3 bx bY bf B (mix f p (g' + 1)) (W.setCell ⟨bf, g', none⟩ (.bool v)) := by
  obtain ⟨h1, h2, h3, h4, h5, h6, h7, h8⟩ := h
  refine ⟨h1.setCell hB _, h2.set (by omega), h3.set (by omega), h4.set (by omega), h5.set (by omega), h6.set (by omega), h7.set (by omega), fun q hq => ⟨?_, by rw [World.frozen?_setCell]; exact (h8 q hq).2⟩⟩
  by_cases e : q = g'
  · subst e
    rw [World.cell?_setCell_same _ _ _ (h8 q hq).1]
    unfold mix
    rw [if_pos (by omega), hv]
  · rw [World.cell?_setCell_other _ _ _ _ (by simp [Ne.symm e]), (h8 q hq).1]
    unfold mix
    by_cases hlt : q < g'
    · rw [if_pos hlt, if_pos (by omega)]
    · rw [if_neg hlt, if_neg (by omega)]
end

set_option maxRecDepth 100000 in
set_option maxHeartbeats 4000000 in
theorem lawBounds_skip (al ah bl bh : Int) (hv : Ivl.validB al ah = false ∨ Ivl.validB al ah = true ∧ Ivl.validB bl bh = false) (w : World) :
    Calls Try.prog 3 #[.agg #[.int .i64 al, .int .i64 ah], .agg #[.int .i64 bl, .int .i64 bh]] w fun e w' => e = .returned (.bool true) ∧ Below w.heap.size w w' := by
  rcases hv with ha | ⟨ha, hbb⟩
  · go_enter Try.func3, Try.ntmps3
    go_wp2_with fail
    refine (head_any _).mono ?_
    rintro e v1 ⟨rfl, hb⟩
    obtain ⟨hc, hd⟩ := bcell hb
    go_wp2_with fail
    refine (valid_any _ _ _).mono ?_
    rintro e v2 ⟨rfl, h⟩
    replace hb := hb.trans (h.mono hb.size)
    clear h hc hd
    obtain ⟨hc, hd⟩ := bcell hb
    go_wp2
    go_ret
    exact ⟨rfl, bd_two hb⟩
  · go_enter Try.func3, Try.ntmps3
    go_wp2_with fail
    refine (head_any _).mono ?_
    rintro e v3 ⟨rfl, hb⟩
    obtain ⟨hc, hd⟩ := bcell hb
    go_wp2_with fail
    refine (valid_any _ _ _).mono ?_
    rintro e v4 ⟨rfl, h⟩
    replace hb := hb.trans (h.mono hb.size)
    clear h hc hd
    obtain ⟨hc, hd⟩ := bcell hb
    go_wp2_with fail
    refine (valid_any _ _ _).mono ?_
    rintro e v5 ⟨rfl, h⟩
    replace hb := hb.trans (h.mono hb.size)
    clear h hc hd
    obtain ⟨hc, hd⟩ := bcell hb
    go_wp2
    go_ret
    exact ⟨rfl, bd_two hb⟩

theorem bdAcc_four (p : Nat → Nat → Nat → Bool) (q : Nat) : bdAcc p 4 q = ((((false || p 0 0 q) || p 0 1 q) || p 1 0 q) || p 1 1 q) := rfl
theorem bdAcc_all {al ah bl bh : Int} (ha : Ivl.validB al ah = true) (hb : Ivl.validB bl bh = true) : ∀ q, q < 8 → bdAcc (fun i k => bdP (Ivl.comb Ivl.plus al ah bl bh) (Ivl.comb Ivl.minus al ah bl bh) (Ivl.comb Ivl.times al ah bl bh) (Ivl.join al ah bl bh) (sel al ah i) (sel bl bh k)) 4 q = true := by
  intro q hq
  rw [bdAcc_four]
  simp only [Bool.false_or, Bool.or_eq_true]
  have hj := Ivl.join_cases ha hb
  have e0 : sel al ah 0 = al := rfl
  have e1 : sel al ah 1 = ah := rfl
  have e2 : sel bl bh 0 = bl := rfl
  have e3 : sel bl bh 1 = bh := rfl
  rw [e0, e1, e2, e3, Ivl.comb_of ha hb, Ivl.comb_of ha hb, Ivl.comb_of ha hb]
  have hc : q = 0 ∨ q = 1 ∨ q = 2 ∨ q = 3 ∨ q = 4 ∨ q = 5 ∨ q = 6 ∨ q = 7 := by omega
  rcases hc with rfl | rfl | rfl | rfl | rfl | rfl | rfl | rfl
  · have h := (Ivl.low3 (Ivl.plus al bl) (Ivl.plus al bh) (Ivl.plus ah bl) (Ivl.plus ah bh)).2.2.2.2
    simp only [bdP, beq_iff_eq]
    simp only [Ivl.plus] at h ⊢
    omega
  · have h := (Ivl.high3 (Ivl.plus al bl) (Ivl.plus al bh) (Ivl.plus ah bl) (Ivl.plus ah bh)).2.2.2.2
    simp only [bdP, beq_iff_eq]
    simp only [Ivl.plus] at h ⊢
    omega
  · have h := (Ivl.low3 (Ivl.minus al bl) (Ivl.minus al bh) (Ivl.minus ah bl) (Ivl.minus ah bh)).2.2.2.2
    simp only [bdP, beq_iff_eq]
    simp only [Ivl.minus] at h ⊢
    omega
  · have h := (Ivl.high3 (Ivl.minus al bl) (Ivl.minus al bh) (Ivl.minus ah bl) (Ivl.minus ah bh)).2.2.2.2
    simp only [bdP, beq_iff_eq]
    simp only [Ivl.minus] at h ⊢
    omega
  · have h := (Ivl.low3 (Ivl.times al bl) (Ivl.times al bh) (Ivl.times ah bl) (Ivl.times ah bh)).2.2.2.2
    simp only [bdP, beq_iff_eq]
    omega
  · have h := (Ivl.high3 (Ivl.times al bl) (Ivl.times al bh) (Ivl.times ah bl) (Ivl.times ah bh)).2.2.2.2
    simp only [bdP, beq_iff_eq]
    omega
  · simp only [bdP, beq_iff_eq, Bool.or_eq_true]
    omega
  · simp only [bdP, beq_iff_eq, Bool.or_eq_true]
    omega
theorem sel_two {W : World} {b : Nat} {l h : Int} (ht : Two W b l h) {i : Nat} (hi : i < 2) : W.cell? ⟨b, i, none⟩ = some (.int .i64 (sel l h i)) := by
  have hc : i = 0 ∨ i = 1 := by omega
  rcases hc with rfl | rfl
  · exact ht.1
  · exact ht.2
theorem sel_bd {l h : Int} (hv : Ivl.validB l h = true) (i : Nat) : -1000000000000 ≤ sel l h i ∧ sel l h i ≤ 1000000000000 := by
  have := Ivl.valid_iff.1 hv
  unfold sel
  split <;> omega

set_option maxRecDepth 100000 in
set_option maxHeartbeats 16000000 in
theorem lawBounds_main (al ah bl bh : Int) (ha : Ivl.validB al ah = true) (hbb : Ivl.validB bl bh = true) (w : World) :
    Calls Try.prog 3 #[.agg #[.int .i64 al, .int .i64 ah], .agg #[.int .i64 bl, .int .i64 bh]] w fun e w' => e = .returned (.bool true) ∧ Below w.heap.size w w' := by
  go_enter Try.func3, Try.ntmps3
  go_wp2_with fail
  refine (head_any _).mono ?_
  rintro e v1 ⟨rfl, hb⟩
  obtain ⟨hc, hd⟩ := bcell hb
  go_wp2_with fail
  refine (valid_any _ _ _).mono ?_
  rintro e v2 ⟨rfl, h⟩
  replace hb := hb.trans (h.mono hb.size)
  clear h hc hd
  obtain ⟨hc, hd⟩ := bcell hb
  go_wp2_with fail
  refine (valid_any _ _ _).mono ?_
  rintro e v3 ⟨rfl, h⟩
  replace hb := hb.trans (h.mono hb.size)
  clear h hc hd
  obtain ⟨hc, hd⟩ := bcell hb
  go_wp2_with fail
  refine (refValid_any _ _ _).mono ?_
  rintro e v4 ⟨rfl, h⟩
  replace hb := hb.trans (h.mono hb.size)
  clear h hc hd
  obtain ⟨hc, hd⟩ := bcell hb
  go_wp2_with fail
  refine (refValid_any _ _ _).mono ?_
  rintro e v5 ⟨rfl, h⟩
  replace hb := hb.trans (h.mono hb.size)
  clear h hc hd
  obtain ⟨hc, hd⟩ := bcell hb
  have f1 := hc w.heap.size 0 (by simp only [size_alloc]; omega)
  have f2 := hc w.heap.size 1 (by simp only [size_alloc]; omega)
  have f3 := hc (w.heap.size + 1) 0 (by simp only [size_alloc]; omega)
  have f4 := hc (w.heap.size + 1) 1 (by simp only [size_alloc]; omega)
  simp [cell_alloc, Nat.add_assoc] at f1 f2 f3 f4
  clear hc hd
  have z7 : w.heap.size + 2 ≤ v5.heap.size := by have := hb.size; simp only [size_alloc] at this; omega
  replace hb := bd_two hb
  go_wp2_with fail
  apply wp_region_fresh 12 4 199 (fun _ => #[.int .i64 0, .int .i64 0]) (fun k => if k = 0 then #[.int .i64 (Ivl.comb Ivl.plus al ah bl bh).1, .int .i64 (Ivl.comb Ivl.plus al ah bl bh).2] else if k = 1 then #[.int .i64 (Ivl.comb Ivl.minus al ah bl bh).1, .int .i64 (Ivl.comb Ivl.minus al ah bl bh).2] else if k = 2 then #[.int .i64 (Ivl.comb Ivl.times al ah bl bh).1, .int .i64 (Ivl.comb Ivl.times al ah bl bh).2] else #[.int .i64 (Ivl.join al ah bl bh).1, .int .i64 (Ivl.join al ah bl bh).2]) _ (by kernel_rfl) (by kernel_rfl) rfl
  · intro w0 h0
    have z0 := h0.size
    have q1 : ∀ x : Grown w0, x.w.cell? ⟨w.heap.size, 0, none⟩ = some (.int .i64 al) := fun x => by rw [x.cell (by omega), h0.cell (p := ⟨w.heap.size, 0, none⟩) (by show w.heap.size < _; omega), f1]
    have q2 : ∀ x : Grown w0, x.w.cell? ⟨w.heap.size, 1, none⟩ = some (.int .i64 ah) := fun x => by rw [x.cell (by omega), h0.cell (p := ⟨w.heap.size, 1, none⟩) (by show w.heap.size < _; omega), f2]
    have q3 : ∀ x : Grown w0, x.w.cell? ⟨w.heap.size + 1, 0, none⟩ = some (.int .i64 bl) := fun x => by rw [x.cell (by omega), h0.cell (p := ⟨w.heap.size + 1, 0, none⟩) (by show w.heap.size + 1 < _; omega), f3]
    have q4 : ∀ x : Grown w0, x.w.cell? ⟨w.heap.size + 1, 1, none⟩ = some (.int .i64 bh) := fun x => by rw [x.cell (by omega), h0.cell (p := ⟨w.heap.size + 1, 1, none⟩) (by show w.heap.size + 1 < _; omega), f4]
    clear h0
    simp only [List.take_succ_cons, List.take_zero]
    repeat (go_big_quiet_step (first
      | (go_at_call 7; exact grown_of (add_any _ _ _ _ _))
      | (go_at_call 8; exact grown_of (sub_any _ _ _ _ _))
      | (go_at_call 9; exact grown_of (mul_any _ _ _ _ _))
      | (go_at_call 10; exact grown_of (join_any _ _ _ _ _))))
    exact wpQuiet_nil rfl
  · intro k hk o ho
    have hc : k = 0 ∨ k = 1 ∨ k = 2 ∨ k = 3 := by omega
    rcases hc with rfl | rfl | rfl | rfl <;>
      (simp only [List.getElem?_cons_succ, List.getElem?_cons_zero, Option.some.injEq] at ho
       subst ho
       exact ⟨_, fun ρ w' => run_alloc_ivl _ _ _ _ _ ρ w'⟩)
  · intro k hk o ho A b w' hP hV hle hz
    have hc : k = 0 ∨ k = 1 ∨ k = 2 ∨ k = 3 := by omega
    have h0 := (hz 0 (by decide)).1
    have h1 := (hz 1 (by decide)).1
    have g0 := (hz 0 (by decide)).2
    have g1 := (hz 1 (by decide)).2
    rcases hc with rfl | rfl | rfl | rfl <;>
      (simp only [List.getElem?_cons_succ, List.getElem?_cons_zero, Option.some.injEq] at ho
       subst ho
       exact ⟨_, run_store_ivl _ _ _ _ _ _ _ A b _ _ _ _ w' (hP _ rfl) ((hV _ (by decide) (by simp [dstOf])).trans rfl) h0 h1 g0 g1, stores_done rfl hle h0 h1 g0 g1⟩)
  · rintro b w' ⟨hbl, hhi, hlo, hcl, hoth⟩
    have l0 := hlo 0 (by omega)
    have l1 := hlo 1 (by omega)
    have l2 := hlo 2 (by omega)
    have l3 := hlo 3 (by omega)
    have k00 : w'.cell? ⟨b 0, 0, none⟩ = some (.int .i64 (Ivl.comb Ivl.plus al ah bl bh).1) := (hcl 0 (by omega) 0 (by decide)).1
    have k01 : w'.cell? ⟨b 0, 1, none⟩ = some (.int .i64 (Ivl.comb Ivl.plus al ah bl bh).2) := (hcl 0 (by omega) 1 (by decide)).1
    have k10 : w'.cell? ⟨b 1, 0, none⟩ = some (.int .i64 (Ivl.comb Ivl.minus al ah bl bh).1) := (hcl 1 (by omega) 0 (by decide)).1
    have k11 : w'.cell? ⟨b 1, 1, none⟩ = some (.int .i64 (Ivl.comb Ivl.minus al ah bl bh).2) := (hcl 1 (by omega) 1 (by decide)).1
    have k20 : w'.cell? ⟨b 2, 0, none⟩ = some (.int .i64 (Ivl.comb Ivl.times al ah bl bh).1) := (hcl 2 (by omega) 0 (by decide)).1
    have k21 : w'.cell? ⟨b 2, 1, none⟩ = some (.int .i64 (Ivl.comb Ivl.times al ah bl bh).2) := (hcl 2 (by omega) 1 (by decide)).1
    have k30 : w'.cell? ⟨b 3, 0, none⟩ = some (.int .i64 (Ivl.join al ah bl bh).1) := (hcl 3 (by omega) 0 (by decide)).1
    have k31 : w'.cell? ⟨b 3, 1, none⟩ = some (.int .i64 (Ivl.join al ah bl bh).2) := (hcl 3 (by omega) 1 (by decide)).1
    have hbw : Below w.heap.size w w' := hb.trans (hbl.mono hb.size)
    have g1 : w'.cell? ⟨w.heap.size, 0, none⟩ = some (.int .i64 al) := by rw [hbl.cell (p := ⟨w.heap.size, 0, none⟩) (by show w.heap.size < _; omega), f1]
    have g2 : w'.cell? ⟨w.heap.size, 1, none⟩ = some (.int .i64 ah) := by rw [hbl.cell (p := ⟨w.heap.size, 1, none⟩) (by show w.heap.size < _; omega), f2]
    have g3 : w'.cell? ⟨w.heap.size + 1, 0, none⟩ = some (.int .i64 bl) := by rw [hbl.cell (p := ⟨w.heap.size + 1, 0, none⟩) (by show w.heap.size + 1 < _; omega), f3]
    have g4 : w'.cell? ⟨w.heap.size + 1, 1, none⟩ = some (.int .i64 bh) := by rw [hbl.cell (p := ⟨w.heap.size + 1, 1, none⟩) (by show w.heap.size + 1 < _; omega), f4]
    have zz := hbl.size
    have HACC := Lib.hid (bdAcc_all ha hbb)
    obtain ⟨P, HP⟩ : ∃ P, Hid (P = Ivl.comb Ivl.plus al ah bl bh) := ⟨_, Lib.hid rfl⟩
    obtain ⟨M, HM⟩ : ∃ P, Hid (P = Ivl.comb Ivl.minus al ah bl bh) := ⟨_, Lib.hid rfl⟩
    obtain ⟨T, HT⟩ : ∃ P, Hid (P = Ivl.comb Ivl.times al ah bl bh) := ⟨_, Lib.hid rfl⟩
    obtain ⟨J, HJ⟩ : ∃ P, Hid (P = Ivl.join al ah bl bh) := ⟨_, Lib.hid rfl⟩
    rw [← HP.out] at k00 k01
    rw [← HM.out] at k10 k11
    rw [← HT.out] at k20 k21
    rw [← HJ.out] at k30 k31
    rw [← HP.out, ← HM.out, ← HT.out, ← HJ.out] at HACC
    have HX := Lib.hid (sel_bd ha)
    have HY := Lib.hid (sel_bd hbb)
    obtain ⟨b0, rfl⟩ : ∃ x, x = b 0 := ⟨_, rfl⟩
    obtain ⟨b1, rfl⟩ : ∃ x, x = b 1 := ⟨_, rfl⟩
    obtain ⟨b2, rfl⟩ : ∃ x, x = b 2 := ⟨_, rfl⟩
    obtain ⟨b3, rfl⟩ : ∃ x, x = b 3 := ⟨_, rfl⟩
    have HTW := Lib.hid (And.intro (show Two w' (b 0) P.1 P.2 from ⟨k00, k01⟩) (And.intro (show Two w' (b 1) M.1 M.2 from ⟨k10, k11⟩) (And.intro (show Two w' (b 2) T.1 T.2 from ⟨k20, k21⟩) (show Two w' (b 3) J.1 J.2 from ⟨k30, k31⟩))))
    have HBW := Lib.hid hbw
    have z8 : w.heap.size + 2 ≤ w'.heap.size := by omega
    clear hcl hlo hhi hoth hbl hb f1 f2 f3 f4 ha hbb hbw k00 k01 k10 k11 k20 k21 k30 k31 zz z7
    simp only [ptrs, dstOf]
    have g5 : (w'.alloc (.cells #[.int .i64 al, .int .i64 ah] 3)).cell? ⟨w.heap.size + 1, 0, none⟩ = some (.int .i64 bl) := by rw [cell_alloc, if_neg (by omega), g3]
    have g6 : (w'.alloc (.cells #[.int .i64 al, .int .i64 ah] 3)).cell? ⟨w.heap.size + 1, 1, none⟩ = some (.int .i64 bh) := by rw [cell_alloc, if_neg (by omega), g4]
    clear g3 g4
    go_wp2
    obtain ⟨pp, Hpp⟩ : ∃ pp : Nat → Nat → Nat → Bool, Hid (pp = fun i k => bdP P M T J (sel al ah i) (sel bl bh k)) := ⟨_, Lib.hid rfl⟩
    rw [← Hpp.out] at HACC
    clear g1 g2 g5 g6
    go_loopw [13] (fun i wr => ∃ j : Nat, j ≤ 2 ∧ i = .int .i64 j ∧ Hid (Bst al ah bl bh P M T J (b 0) (b 1) (b 2) (b 3) w'.heap.size (w'.heap.size + 1) (w'.heap.size + 1 + 1) w (bdAcc pp (2 * j)) wr)) (fun i _ => 2 - (intOf i).toNat)
    case atStart =>
      refine ⟨0, by omega, rfl, Lib.hid ⟨below_alloc (below_alloc (below_alloc HBW.out _) _) _, ((HTW.out.1.alloc _).alloc _).alloc _, ((HTW.out.2.1.alloc _).alloc _).alloc _, ((HTW.out.2.2.1.alloc _).alloc _).alloc _, ((HTW.out.2.2.2.alloc _).alloc _).alloc _, ((Two.new w' al ah _ rfl).alloc _).alloc _, (Two.new _ bl bh _ (size_alloc _ _).symm).alloc _, fun q hq => ?_⟩⟩
      rw [cell_alloc, frozen_alloc, if_pos (by rw [size_alloc, size_alloc]), if_pos (by rw [size_alloc, size_alloc])]
      have hc : q = 0 ∨ q = 1 ∨ q = 2 ∨ q = 3 ∨ q = 4 ∨ q = 5 ∨ q = 6 ∨ q = 7 := by omega
      rcases hc with rfl | rfl | rfl | rfl | rfl | rfl | rfl | rfl <;> exact ⟨rfl, rfl⟩
    case round =>
      obtain ⟨j, hj, rfl, HS⟩ := hrel
      by_cases hlt : j < 2
      · have hj' : (j : Int) < 2 := by omega
        obtain ⟨wo, rfl⟩ : ∃ x, x = wr := ⟨_, rfl⟩
        go_wp2
        go_loopw [14] (fun k wi => ∃ m : Nat, m ≤ 2 ∧ k = .int .i64 m ∧ Hid (Bst al ah bl bh P M T J (b 0) (b 1) (b 2) (b 3) w'.heap.size (w'.heap.size + 1) (w'.heap.size + 1 + 1) w (bdAcc pp (2 * j + m)) wi)) (fun k _ => 2 - (intOf k).toNat)
        case atStart => exact ⟨0, by omega, rfl, HS⟩
        case round =>
          obtain ⟨m, hm, rfl, HI⟩ := hrel
          by_cases hmt : m < 2
          · have hm' : (m : Int) < 2 := by omega
            obtain ⟨x, Hx⟩ : ∃ x, Hid (x = sel al ah j) := ⟨_, Lib.hid rfl⟩
            obtain ⟨y, Hy⟩ : ∃ x, Hid (x = sel bl bh m) := ⟨_, Lib.hid rfl⟩
            have xb : -1000000000000 ≤ x ∧ x ≤ 1000000000000 := by rw [Hx.out]; exact HX.out j
            have yb : -1000000000000 ≤ y ∧ y ≤ 1000000000000 := by rw [Hy.out]; exact HY.out m
            have c1 : wr.cell? ⟨w'.heap.size, j, none⟩ = some (.int .i64 x) := by rw [Hx.out]; exact sel_two HI.out.2.2.2.2.2.1 hlt
            have c2 : wr.cell? ⟨w'.heap.size + 1, m, none⟩ = some (.int .i64 y) := by rw [Hy.out]; exact sel_two HI.out.2.2.2.2.2.2.1 hmt
            have i1 := lt_of_cell c1
            have i2 := lt_of_cell c2
            have p1 : ∀ X : Grown wr, X.w.cell? ⟨w'.heap.size, j, none⟩ = some (.int .i64 x) := fun X => by rw [X.cell i1, c1]
            have p2 : ∀ X : Grown wr, X.w.cell? ⟨w'.heap.size + 1, m, none⟩ = some (.int .i64 y) := fun X => by rw [X.cell i2, c2]
            obtain ⟨sv, Hsv⟩ : ∃ z, Hid (z = Ivl.sat (x + y)) := ⟨_, Lib.hid rfl⟩
            obtain ⟨dv, Hdv⟩ : ∃ z, Hid (z = Ivl.sat (x - y)) := ⟨_, Lib.hid rfl⟩
            obtain ⟨tv, Htv⟩ : ∃ z, Hid (z = Ivl.times x y) := ⟨_, Lib.hid rfl⟩
            have HC1 : Hid (∀ W, Calls Try.prog 11 #[.int .i64 (x + y)] W fun e w' => e = .returned (.int .i64 sv) ∧ W = w') := Lib.hid fun W => by rw [Hsv.out]; exact refSat_any _ _
            have HC2 : Hid (∀ W, Calls Try.prog 11 #[.int .i64 (x - y)] W fun e w' => e = .returned (.int .i64 dv) ∧ W = w') := Lib.hid fun W => by rw [Hdv.out]; exact refSat_any _ _
            have HC3 : Hid (∀ W, Calls Try.prog 12 #[.int .i64 x, .int .i64 y] W fun e w' => e = .returned (.int .i64 tv) ∧ W = w') := Lib.hid fun W => by rw [Htv.out]; exact refTimes_any _ _ xb yb _
            have sp : IntKind.i64.wrap (x + y) = x + y := by rw [IntKind.wrap_i64]; omega
            have sm : IntKind.i64.wrap (x - y) = x - y := by rw [IntKind.wrap_i64]; omega
            obtain ⟨f, Hf⟩ : ∃ f : Nat → Bool, Hid (f = bdAcc pp (2 * j + m)) := ⟨_, Lib.hid rfl⟩
            obtain ⟨p, Hp⟩ : ∃ f : Nat → Bool, Hid (f = bdP P M T J x y) := ⟨_, Lib.hid rfl⟩
            have HN : Hid (∀ q, bdAcc pp (2 * j + (m + 1)) q = (f q || p q)) := Lib.hid fun q => by
              show (bdAcc pp (2 * j + m) q || pp ((2 * j + m) / 2) ((2 * j + m) % 2) q) = _
              rw [show (2 * j + m) / 2 = j by omega, show (2 * j + m) % 2 = m by omega, Hf.out, Hp.out, Hpp.out, Hx.out, Hy.out]
            rw [← Hf.out] at HI
            clear c1 c2
            go_wp2_with fail
            refine wp_region_grown (by kernel_rfl) (by kernel_rfl) ?_
            repeat (go_big_quiet_step (first
              | (go_at_call 11; with_reducible exact grown_of_same (HC1.out _))
              | (go_at_call 11; with_reducible exact grown_of_same (HC2.out _))
              | (go_at_call 12; with_reducible exact grown_of_same (HC3.out _))))
            refine wpQuiet_nil ?_
            rintro _ ⟨X, rfl⟩
            have HS0 : Hid (Bst al ah bl bh P M T J (b 0) (b 1) (b 2) (b 3) w'.heap.size (w'.heap.size + 1) (w'.heap.size + 1 + 1) w (mix f p 0) X.w) := Lib.hid (by rw [mix_zero]; exact HI.out.below X.below)
            obtain ⟨W0, HW0⟩ : ∃ W1, Hid (W1 = X.w) := ⟨_, Lib.hid rfl⟩
            rw [← HW0.out] at HS0 ⊢
            clear p1 p2 sp sm xb yb i1 i2
            go_upto_region 15 with fail
            go_cut [15] from 64 to 192 (fun s wx => s = .int .i64 sv ∧ Hid (Bst al ah bl bh P M T J (b 0) (b 1) (b 2) (b 3) w'.heap.size (w'.heap.size + 1) (w'.heap.size + 1 + 1) w (mix f p 1) wx))
            case first =>
              as_aux_lemma =>
                obtain ⟨v, Hv⟩ : ∃ v, Hid (v = f 0) := ⟨_, Lib.hid rfl⟩
                have hc := HS0.out.2.2.2.2.2.2.2 0 (by omega)
                have hm : mix f p 0 0 = v := by rw [Hv.out]; unfold mix; rw [if_neg (by omega)]
                rw [hm] at hc
                obtain ⟨hc1, hc2⟩ := hc
                have hr : W0.cell? ⟨b 0, 0, none⟩ = some (.int .i64 P.1) := HS0.out.2.1.1
                clear hm
                have HG : Hid (∀ v', v' = (v || p 0) → Bst al ah bl bh P M T J (b 0) (b 1) (b 2) (b 3) w'.heap.size (w'.heap.size + 1) (w'.heap.size + 1 + 1) w (mix f p 1) (W0.setCell ⟨w'.heap.size + 1 + 1, 0, none⟩ (.bool v'))) := Lib.hid fun v' e => HS0.out.set (by omega) (by omega) (by omega) (by omega) (by omega) (by omega) (by omega) (by omega) (by rw [← Hv.out]; exact e)
                cases v
                · go_wp2_with fail
                  go_meet
                  exact ⟨rfl, Lib.hid (HG.out _ (by rw [Hp.out, Bool.false_or]; show _ = (P.1 == _); rw [← Hsv.out]))⟩
                · go_wp2_with fail
                  go_meet
                  exact ⟨rfl, Lib.hid (HG.out true rfl)⟩
            case rest =>
              obtain ⟨rfl, HS1⟩ := hcut
              obtain ⟨W1, rfl⟩ : ∃ x, x = wc := ⟨_, rfl⟩
              go_upto_region 16 with fail
              go_cut [15] from 64 to 192 (fun s wx => s = .int .i64 sv ∧ Hid (Bst al ah bl bh P M T J (b 0) (b 1) (b 2) (b 3) w'.heap.size (w'.heap.size + 1) (w'.heap.size + 1 + 1) w (mix f p 2) wx))
              case first =>
                as_aux_lemma =>
                  obtain ⟨v, Hv⟩ : ∃ v, Hid (v = f 1) := ⟨_, Lib.hid rfl⟩
                  have hc := HS1.out.2.2.2.2.2.2.2 1 (by omega)
                  have hm : mix f p 1 1 = v := by rw [Hv.out]; unfold mix; rw [if_neg (by omega)]
                  rw [hm] at hc
                  obtain ⟨hc1, hc2⟩ := hc
                  have hr : W1.cell? ⟨b 0, 1, none⟩ = some (.int .i64 P.2) := HS1.out.2.1.2
                  clear hm
                  have HG : Hid (∀ v', v' = (v || p 1) → Bst al ah bl bh P M T J (b 0) (b 1) (b 2) (b 3) w'.heap.size (w'.heap.size + 1) (w'.heap.size + 1 + 1) w (mix f p 2) (W1.setCell ⟨w'.heap.size + 1 + 1, 1, none⟩ (.bool v'))) := Lib.hid fun v' e => HS1.out.set (by omega) (by omega) (by omega) (by omega) (by omega) (by omega) (by omega) (by omega) (by rw [← Hv.out]; exact e)
                  cases v
                  · go_wp2_with fail
                    go_meet
                    exact ⟨rfl, Lib.hid (HG.out _ (by rw [Hp.out, Bool.false_or]; show _ = (P.2 == _); rw [← Hsv.out]))⟩
                  · go_wp2_with fail
                    go_meet
                    exact ⟨rfl, Lib.hid (HG.out true rfl)⟩
              case rest =>
                obtain ⟨rfl, HS2⟩ := hcut
                obtain ⟨W2, rfl⟩ : ∃ x, x = wc := ⟨_, rfl⟩
                go_upto_region 17 with fail
                go_cut [16] from 64 to 192 (fun s wx => s = .int .i64 dv ∧ Hid (Bst al ah bl bh P M T J (b 0) (b 1) (b 2) (b 3) w'.heap.size (w'.heap.size + 1) (w'.heap.size + 1 + 1) w (mix f p 3) wx))
                case first =>
                  as_aux_lemma =>
                    obtain ⟨v, Hv⟩ : ∃ v, Hid (v = f 2) := ⟨_, Lib.hid rfl⟩
                    have hc := HS2.out.2.2.2.2.2.2.2 2 (by omega)
                    have hm : mix f p 2 2 = v := by rw [Hv.out]; unfold mix; rw [if_neg (by omega)]
                    rw [hm] at hc
                    obtain ⟨hc1, hc2⟩ := hc
                    have hr : W2.cell? ⟨b 1, 0, none⟩ = some (.int .i64 M.1) := HS2.out.2.2.1.1
                    clear hm
                    have HG : Hid (∀ v', v' = (v || p 2) → Bst al ah bl bh P M T J (b 0) (b 1) (b 2) (b 3) w'.heap.size (w'.heap.size + 1) (w'.heap.size + 1 + 1) w (mix f p 3) (W2.setCell ⟨w'.heap.size + 1 + 1, 2, none⟩ (.bool v'))) := Lib.hid fun v' e => HS2.out.set (by omega) (by omega) (by omega) (by omega) (by omega) (by omega) (by omega) (by omega) (by rw [← Hv.out]; exact e)
                    cases v
                    · go_wp2_with fail
                      go_meet
                      exact ⟨rfl, Lib.hid (HG.out _ (by rw [Hp.out, Bool.false_or]; show _ = (M.1 == _); rw [← Hdv.out]))⟩
                    · go_wp2_with fail
                      go_meet
                      exact ⟨rfl, Lib.hid (HG.out true rfl)⟩
                case rest =>
                  obtain ⟨rfl, HS3⟩ := hcut
                  obtain ⟨W3, rfl⟩ : ∃ x, x = wc := ⟨_, rfl⟩
                  go_upto_region 18 with fail
                  go_cut [16] from 64 to 192 (fun s wx => s = .int .i64 dv ∧ Hid (Bst al ah bl bh P M T J (b 0) (b 1) (b 2) (b 3) w'.heap.size (w'.heap.size + 1) (w'.heap.size + 1 + 1) w (mix f p 4) wx))
                  case first =>
                    as_aux_lemma =>
                      obtain ⟨v, Hv⟩ : ∃ v, Hid (v = f 3) := ⟨_, Lib.hid rfl⟩
                      have hc := HS3.out.2.2.2.2.2.2.2 3 (by omega)
                      have hm : mix f p 3 3 = v := by rw [Hv.out]; unfold mix; rw [if_neg (by omega)]
                      rw [hm] at hc
                      obtain ⟨hc1, hc2⟩ := hc
                      have hr : W3.cell? ⟨b 1, 1, none⟩ = some (.int .i64 M.2) := HS3.out.2.2.1.2
                      clear hm
                      have HG : Hid (∀ v', v' = (v || p 3) → Bst al ah bl bh P M T J (b 0) (b 1) (b 2) (b 3) w'.heap.size (w'.heap.size + 1) (w'.heap.size + 1 + 1) w (mix f p 4) (W3.setCell ⟨w'.heap.size + 1 + 1, 3, none⟩ (.bool v'))) := Lib.hid fun v' e => HS3.out.set (by omega) (by omega) (by omega) (by omega) (by omega) (by omega) (by omega) (by omega) (by rw [← Hv.out]; exact e)
                      cases v
                      · go_wp2_with fail
                        go_meet
                        exact ⟨rfl, Lib.hid (HG.out _ (by rw [Hp.out, Bool.false_or]; show _ = (M.2 == _); rw [← Hdv.out]))⟩
                      · go_wp2_with fail
                        go_meet
                        exact ⟨rfl, Lib.hid (HG.out true rfl)⟩
                  case rest =>
                    obtain ⟨rfl, HS4⟩ := hcut
                    obtain ⟨W4, rfl⟩ : ∃ x, x = wc := ⟨_, rfl⟩
                    go_upto_region 19 with fail
                    go_cut [17] from 64 to 192 (fun s wx => s = .int .i64 tv ∧ Hid (Bst al ah bl bh P M T J (b 0) (b 1) (b 2) (b 3) w'.heap.size (w'.heap.size + 1) (w'.heap.size + 1 + 1) w (mix f p 5) wx))
                    case first =>
                      as_aux_lemma =>
                        obtain ⟨v, Hv⟩ : ∃ v, Hid (v = f 4) := ⟨_, Lib.hid rfl⟩
                        have hc := HS4.out.2.2.2.2.2.2.2 4 (by omega)
                        have hm : mix f p 4 4 = v := by rw [Hv.out]; unfold mix; rw [if_neg (by omega)]
                        rw [hm] at hc
                        obtain ⟨hc1, hc2⟩ := hc
                        have hr : W4.cell? ⟨b 2, 0, none⟩ = some (.int .i64 T.1) := HS4.out.2.2.2.1.1
                        clear hm
                        have HG : Hid (∀ v', v' = (v || p 4) → Bst al ah bl bh P M T J (b 0) (b 1) (b 2) (b 3) w'.heap.size (w'.heap.size + 1) (w'.heap.size + 1 + 1) w (mix f p 5) (W4.setCell ⟨w'.heap.size + 1 + 1, 4, none⟩ (.bool v'))) := Lib.hid fun v' e => HS4.out.set (by omega) (by omega) (by omega) (by omega) (by omega) (by omega) (by omega) (by omega) (by rw [← Hv.out]; exact e)
                        cases v
                        · go_wp2_with fail
                          go_meet
                          exact ⟨rfl, Lib.hid (HG.out _ (by rw [Hp.out, Bool.false_or]; show _ = (T.1 == _); rw [← Htv.out]))⟩
                        · go_wp2_with fail
                          go_meet
                          exact ⟨rfl, Lib.hid (HG.out true rfl)⟩
                    case rest =>
                      obtain ⟨rfl, HS5⟩ := hcut
                      obtain ⟨W5, rfl⟩ : ∃ x, x = wc := ⟨_, rfl⟩
                      go_upto_region 20 with fail
                      go_cut [17] from 64 to 192 (fun s wx => s = .int .i64 tv ∧ Hid (Bst al ah bl bh P M T J (b 0) (b 1) (b 2) (b 3) w'.heap.size (w'.heap.size + 1) (w'.heap.size + 1 + 1) w (mix f p 6) wx))
                      case first =>
                        as_aux_lemma =>
                          obtain ⟨v, Hv⟩ : ∃ v, Hid (v = f 5) := ⟨_, Lib.hid rfl⟩
                          have hc := HS5.out.2.2.2.2.2.2.2 5 (by omega)
                          have hm : mix f p 5 5 = v := by rw [Hv.out]; unfold mix; rw [if_neg (by omega)]
                          rw [hm] at hc
                          obtain ⟨hc1, hc2⟩ := hc
                          have hr : W5.cell? ⟨b 2, 1, none⟩ = some (.int .i64 T.2) := HS5.out.2.2.2.1.2
                          clear hm
                          have HG : Hid (∀ v', v' = (v || p 5) → Bst al ah bl bh P M T J (b 0) (b 1) (b 2) (b 3) w'.heap.size (w'.heap.size + 1) (w'.heap.size + 1 + 1) w (mix f p 6) (W5.setCell ⟨w'.heap.size + 1 + 1, 5, none⟩ (.bool v'))) := Lib.hid fun v' e => HS5.out.set (by omega) (by omega) (by omega) (by omega) (by omega) (by omega) (by omega) (by omega) (by rw [← Hv.out]; exact e)
                          cases v
                          · go_wp2_with fail
                            go_meet
                            exact ⟨rfl, Lib.hid (HG.out _ (by rw [Hp.out, Bool.false_or]; show _ = (T.2 == _); rw [← Htv.out]))⟩
                          · go_wp2_with fail
                            go_meet
                            exact ⟨rfl, Lib.hid (HG.out true rfl)⟩
                      case rest =>
                        obtain ⟨rfl, HS6⟩ := hcut
                        obtain ⟨W6, rfl⟩ : ∃ x, x = wc := ⟨_, rfl⟩
                        go_upto_region 21 with fail
                        go_cut [15] from 64 to 192 (fun s wx => s = .int .i64 sv ∧ Hid (Bst al ah bl bh P M T J (b 0) (b 1) (b 2) (b 3) w'.heap.size (w'.heap.size + 1) (w'.heap.size + 1 + 1) w (mix f p 7) wx))
                        case first =>
                          as_aux_lemma =>
                            obtain ⟨v, Hv⟩ : ∃ v, Hid (v = f 6) := ⟨_, Lib.hid rfl⟩
                            have hc := HS6.out.2.2.2.2.2.2.2 6 (by omega)
                            have hm : mix f p 6 6 = v := by rw [Hv.out]; unfold mix; rw [if_neg (by omega)]
                            rw [hm] at hc
                            obtain ⟨hc1, hc2⟩ := hc
                            have hr : W6.cell? ⟨b 3, 0, none⟩ = some (.int .i64 J.1) := HS6.out.2.2.2.2.1.1
                            clear hm
                            have c1 : W6.cell? ⟨w'.heap.size, j, none⟩ = some (.int .i64 x) := by rw [Hx.out]; exact sel_two HS6.out.2.2.2.2.2.1 hlt
                            have c2 : W6.cell? ⟨w'.heap.size + 1, m, none⟩ = some (.int .i64 y) := by rw [Hy.out]; exact sel_two HS6.out.2.2.2.2.2.2.1 hmt
                            have HG2 : Hid (∀ v', v' = (v || p 6) → Bst al ah bl bh P M T J (b 0) (b 1) (b 2) (b 3) w'.heap.size (w'.heap.size + 1) (w'.heap.size + 1 + 1) w (mix f p 7) ((W6.drew).setCell ⟨w'.heap.size + 1 + 1, 6, none⟩ (.bool v'))) := Lib.hid fun v' e => (HS6.out.below (Below.refl _ _).drew).set (by omega) (by omega) (by omega) (by omega) (by omega) (by omega) (by omega) (by omega) (by rw [← Hv.out]; exact e)
                            cases v
                            · cases hd1 : (J.1 == x)
                              · refine wp_region_quiet_tail 21 (by kernel_rfl) (by kernel_rfl) ?_
                                simp only [List.take_succ_cons, List.take_zero, List.drop_succ_cons, List.drop_zero]
                                repeat (go_big_quiet_step (fail))
                                refine wpQuiet_nil ?_
                                go_wp2_with fail
                                go_meet
                                exact ⟨rfl, Lib.hid (HG2.out _ (by rw [Hp.out, Bool.false_or]; show _ = ((J.1 == x) || (J.1 == y)); rw [hd1, Bool.false_or]))⟩
                              · refine wp_region_quiet_tail 21 (by kernel_rfl) (by kernel_rfl) ?_
                                simp only [List.take_succ_cons, List.take_zero, List.drop_succ_cons, List.drop_zero]
                                repeat (go_big_quiet_step (fail))
                                refine wpQuiet_nil ?_
                                go_wp2_with fail
                                go_meet
                                exact ⟨rfl, Lib.hid (HG2.out true (by rw [Hp.out, Bool.false_or]; show _ = ((J.1 == x) || (J.1 == y)); rw [hd1]; rfl))⟩
                            · refine wp_region_quiet_tail 21 (by kernel_rfl) (by kernel_rfl) ?_
                              simp only [List.take_succ_cons, List.take_zero, List.drop_succ_cons, List.drop_zero]
                              repeat (go_big_quiet_step (fail))
                              refine wpQuiet_nil ?_
                              go_wp2_with fail
                              go_meet
                              exact ⟨rfl, Lib.hid (HG2.out true rfl)⟩
                        case rest =>
                          obtain ⟨rfl, HS7⟩ := hcut
                          obtain ⟨W7, rfl⟩ : ∃ x, x = wc := ⟨_, rfl⟩
                          as_aux_lemma =>
                            go_upto_region 22 with fail
                            obtain ⟨v, Hv⟩ : ∃ v, Hid (v = f 7) := ⟨_, Lib.hid rfl⟩
                            have hc := HS7.out.2.2.2.2.2.2.2 7 (by omega)
                            have hm : mix f p 7 7 = v := by rw [Hv.out]; unfold mix; rw [if_neg (by omega)]
                            rw [hm] at hc
                            obtain ⟨hc1, hc2⟩ := hc
                            have hr : W7.cell? ⟨b 3, 1, none⟩ = some (.int .i64 J.2) := HS7.out.2.2.2.2.1.2
                            clear hm
                            have c1 : W7.cell? ⟨w'.heap.size, j, none⟩ = some (.int .i64 x) := by rw [Hx.out]; exact sel_two HS7.out.2.2.2.2.2.1 hlt
                            have c2 : W7.cell? ⟨w'.heap.size + 1, m, none⟩ = some (.int .i64 y) := by rw [Hy.out]; exact sel_two HS7.out.2.2.2.2.2.2.1 hmt
                            have HG2 : Hid (∀ v', v' = (v || p 7) → Bst al ah bl bh P M T J (b 0) (b 1) (b 2) (b 3) w'.heap.size (w'.heap.size + 1) (w'.heap.size + 1 + 1) w (mix f p 8) ((W7.drew).setCell ⟨w'.heap.size + 1 + 1, 7, none⟩ (.bool v'))) := Lib.hid fun v' e => (HS7.out.below (Below.refl _ _).drew).set (by omega) (by omega) (by omega) (by omega) (by omega) (by omega) (by omega) (by omega) (by rw [← Hv.out]; exact e)
                            cases v
                            · cases hd1 : (J.2 == x)
                              · refine wp_region_quiet_tail 21 (by kernel_rfl) (by kernel_rfl) ?_
                                simp only [List.take_succ_cons, List.take_zero, List.drop_succ_cons, List.drop_zero]
                                repeat (go_big_quiet_step (fail))
                                refine wpQuiet_nil ?_
                                go_wp2
                                go_roundw
                                case rel => exact ⟨m + 1, by omega, by go_num, Lib.hid ((HG2.out _ (by rw [Hp.out, Bool.false_or]; show _ = ((J.2 == x) || (J.2 == y)); rw [hd1, Bool.false_or])).same (mix_end HN.out))⟩
                                case measure => simp [intOf]; omega
                              · refine wp_region_quiet_tail 21 (by kernel_rfl) (by kernel_rfl) ?_
                                simp only [List.take_succ_cons, List.take_zero, List.drop_succ_cons, List.drop_zero]
                                repeat (go_big_quiet_step (fail))
                                refine wpQuiet_nil ?_
                                go_wp2
                                go_roundw
                                case rel => exact ⟨m + 1, by omega, by go_num, Lib.hid ((HG2.out true (by rw [Hp.out, Bool.false_or]; show _ = ((J.2 == x) || (J.2 == y)); rw [hd1]; rfl)).same (mix_end HN.out))⟩
                                case measure => simp [intOf]; omega
                            · refine wp_region_quiet_tail 21 (by kernel_rfl) (by kernel_rfl) ?_
                              simp only [List.take_succ_cons, List.take_zero, List.drop_succ_cons, List.drop_zero]
                              repeat (go_big_quiet_step (fail))
                              refine wpQuiet_nil ?_
                              go_wp2
                              go_roundw
                              case rel => exact ⟨m + 1, by omega, by go_num, Lib.hid ((HG2.out true rfl).same (mix_end HN.out))⟩
                              case measure => simp [intOf]; omega
          · obtain rfl : m = 2 := by omega
            go_wp2
            go_roundw
            case rel => exact ⟨j + 1, by omega, by go_num, HI⟩
            case measure => simp [intOf]; omega
      · obtain rfl : j = 2 := by omega
        have HF : Hid (∀ q, q < 8 → wr.cell? ⟨w'.heap.size + 1 + 1, q, none⟩ = some (.bool true)) := Lib.hid fun q hq => by
          rw [(HS.out.2.2.2.2.2.2.2 q hq).1]
          show some (Value.bool (bdAcc pp 4 q)) = _
          rw [HACC.out q hq]
        have e0 := HF.out 0 (by omega)
        have e1 := HF.out 1 (by omega)
        have e2 := HF.out 2 (by omega)
        have e3 := HF.out 3 (by omega)
        have e4 := HF.out 4 (by omega)
        have e5 := HF.out 5 (by omega)
        have e6 := HF.out 6 (by omega)
        have e7 := HF.out 7 (by omega)
        have heq : ∀ W : World, (Op.equalIn 10000 28 (.agg #[.bool true, .bool true, .bool true, .bool true, .bool true, .bool true, .bool true, .bool true]) (.agg #[.bool true, .bool true, .bool true, .bool true, .bool true, .bool true, .bool true, .bool true])).run Try.prog W = .ok true W := fun _ => by kernel_rfl
        go_wp2
        go_ret
        exact ⟨rfl, HS.out.1⟩

theorem lawBounds_any (al ah bl bh : Int) (w : World) :
    Calls Try.prog 3 #[.agg #[.int .i64 al, .int .i64 ah], .agg #[.int .i64 bl, .int .i64 bh]] w fun e w' => e = .returned (.bool true) ∧ Below w.heap.size w w' := by
  cases ha : Ivl.validB al ah
  · exact lawBounds_skip al ah bl bh (Or.inl ha) w
  · cases hb : Ivl.validB bl bh
    · exact lawBounds_skip al ah bl bh (Or.inr ⟨ha, hb⟩) w
    · exact lawBounds_main al ah bl bh ha hb w

end Go.Proofs.Ytijnnfioggjaeaa
