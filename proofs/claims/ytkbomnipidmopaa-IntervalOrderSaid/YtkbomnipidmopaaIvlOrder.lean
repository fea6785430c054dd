/- The statement on the order of intervals: its walk. -/
import Derived.Test.YtkbomnipidmopaaIvlParts
import Derived.Test.YtkbomnipidmopaaIvlMathC
namespace Go.Proofs.Ytkbomnipidmopaa
open Go.RowKit

theorem six_out {al ah bl bh cl ch : Int} {w w2 : World} (h : w2.cell? ⟨w.heap.size, 0, none⟩ = some (.int .i64 al) ∧ w2.cell? ⟨w.heap.size, 1, none⟩ = some (.int .i64 ah) ∧ w2.cell? ⟨w.heap.size + 1, 0, none⟩ = some (.int .i64 bl) ∧ w2.cell? ⟨w.heap.size + 1, 1, none⟩ = some (.int .i64 bh) ∧
      w2.cell? ⟨w.heap.size + 1 + 1, 0, none⟩ = some (.int .i64 cl) ∧ w2.cell? ⟨w.heap.size + 1 + 1, 1, none⟩ = some (.int .i64 ch) ∧
      Below (((w.alloc (.cells #[.int .i64 al, .int .i64 ah] 23)).alloc (.cells #[.int .i64 bl, .int .i64 bh] 23)).alloc (.cells #[.int .i64 cl, .int .i64 ch] 23)).heap.size
        (((w.alloc (.cells #[.int .i64 al, .int .i64 ah] 23)).alloc (.cells #[.int .i64 bl, .int .i64 bh] 23)).alloc (.cells #[.int .i64 cl, .int .i64 ch] 23)) w2) : w2.cell? ⟨w.heap.size, 0, none⟩ = some (.int .i64 al) ∧ w2.cell? ⟨w.heap.size, 1, none⟩ = some (.int .i64 ah) ∧ w2.cell? ⟨w.heap.size + 1, 0, none⟩ = some (.int .i64 bl) ∧ w2.cell? ⟨w.heap.size + 1, 1, none⟩ = some (.int .i64 bh) ∧
      w2.cell? ⟨w.heap.size + 1 + 1, 0, none⟩ = some (.int .i64 cl) ∧ w2.cell? ⟨w.heap.size + 1 + 1, 1, none⟩ = some (.int .i64 ch) ∧
      Below (((w.alloc (.cells #[.int .i64 al, .int .i64 ah] 23)).alloc (.cells #[.int .i64 bl, .int .i64 bh] 23)).alloc (.cells #[.int .i64 cl, .int .i64 ch] 23)).heap.size
        (((w.alloc (.cells #[.int .i64 al, .int .i64 ah] 23)).alloc (.cells #[.int .i64 bl, .int .i64 bh] 23)).alloc (.cells #[.int .i64 cl, .int .i64 ch] 23)) w2 := h

set_option maxRecDepth 100000 in
set_option maxHeartbeats 8000000 in
/-- Not all are valid: the first test alone. -/
theorem lawOrder_skip (al ah bl bh cl ch : Int) (hv : Ivl.validB al ah = false ∨ Ivl.validB al ah = true ∧ Ivl.validB bl bh = false ∨ Ivl.validB al ah = true ∧ Ivl.validB bl bh = true ∧ Ivl.validB cl ch = false)
    (c1 : Ivl.comb Ivl.plus bl bh al ah = Ivl.comb Ivl.plus al ah bl bh) (c2 : Ivl.comb Ivl.times bl bh al ah = Ivl.comb Ivl.times al ah bl bh) (c3 : Ivl.join bl bh al ah = Ivl.join al ah bl bh) (w : World) :
    Calls Try.prog 6 #[.agg #[.int .i64 al, .int .i64 ah], .agg #[.int .i64 bl, .int .i64 bh], .agg #[.int .i64 cl, .int .i64 ch]] w fun e w' => e = .returned (.bool true) ∧ Below w.heap.size w w' := by
  go_enter Try.func6, Try.ntmps6
  go_wp2_with fail
  refine (head_any _).mono ?_
  rintro e v1 ⟨rfl, hb⟩
  obtain ⟨hc, hd⟩ := bcell hb
  have f1 := hc w.heap.size 0 (by simp only [size_alloc]; omega)
  have f2 := hc w.heap.size 1 (by simp only [size_alloc]; omega)
  have f3 := hc (w.heap.size + 1) 0 (by simp only [size_alloc]; omega)
  have f4 := hc (w.heap.size + 1) 1 (by simp only [size_alloc]; omega)
  have f5 := hc (w.heap.size + 1 + 1) 0 (by simp only [size_alloc]; omega)
  have f6 := hc (w.heap.size + 1 + 1) 1 (by simp only [size_alloc]; omega)
  simp [cell_alloc, Nat.add_assoc] at f1 f2 f3 f4 f5 f6
  clear hc hd
  go_wp2_with fail
  go_region_held3 (fun w' => w'.cell? ⟨w.heap.size, 0, none⟩ = some (.int .i64 al) ∧ w'.cell? ⟨w.heap.size, 1, none⟩ = some (.int .i64 ah) ∧ w'.cell? ⟨w.heap.size + 1, 0, none⟩ = some (.int .i64 bl) ∧ w'.cell? ⟨w.heap.size + 1, 1, none⟩ = some (.int .i64 bh) ∧
      w'.cell? ⟨w.heap.size + 1 + 1, 0, none⟩ = some (.int .i64 cl) ∧ w'.cell? ⟨w.heap.size + 1 + 1, 1, none⟩ = some (.int .i64 ch) ∧
      Below (((w.alloc (.cells #[.int .i64 al, .int .i64 ah] 23)).alloc (.cells #[.int .i64 bl, .int .i64 bh] 23)).alloc (.cells #[.int .i64 cl, .int .i64 ch] 23)).heap.size
        (((w.alloc (.cells #[.int .i64 al, .int .i64 ah] 23)).alloc (.cells #[.int .i64 bl, .int .i64 bh] 23)).alloc (.cells #[.int .i64 cl, .int .i64 ch] 23)) w')
    (first
      | exact ⟨f1, f2, f3, f4, f5, f6, hb.drew⟩ | exact ⟨f1, f2, f3, f4, f5, f6, hb⟩
      | exact keep6 h' ⟨f1, f2, f3, f4, f5, f6, hb.drew⟩ (by simp only [size_alloc]; omega) (by simp only [size_alloc]; omega) (by simp only [size_alloc]; omega) (by simp only [size_alloc]; omega) (by simp only [size_alloc]; omega) (by simp only [size_alloc]; omega)
      | exact keep6 h' (by assumption) (by simp only [size_alloc]; omega) (by simp only [size_alloc]; omega) (by simp only [size_alloc]; omega) (by simp only [size_alloc]; omega) (by simp only [size_alloc]; omega) (by simp only [size_alloc]; omega))
    (first
      | (go_at_call 13; refine (add_any _ _ _ _ _).mono ?_; rintro e w' ⟨rfl, h'⟩)
      | (go_at_call 17; refine (mul_any _ _ _ _ _).mono ?_; rintro e w' ⟨rfl, h'⟩)
      | (go_at_call 19; refine (join_any _ _ _ _ _).mono ?_; rintro e w' ⟨rfl, h'⟩))
  obtain ⟨k1, k2, k3, k4, k5, k6, hb2⟩ := six_out (w := w) (w2 := w') (al := al) (ah := ah) (bl := bl) (bh := bh) (cl := cl) (ch := ch) (by assumption)
  clear k1 k2 k3 k4 k5 k6 f1 f2 f3 f4 f5 f6 hb
  have hb := hb2
  clear hb2
  obtain ⟨hc, hd⟩ := bcell hb
  rcases hv with ha | ⟨ha, hbb⟩ | ⟨ha, hbb, hcc⟩
  · skip
    go_wp2_with fail
    refine (valid_any _ _ _).mono ?_
    rintro e v2 ⟨rfl, h⟩
    replace hb := hb.trans (h.mono hb.size)
    clear h hc hd
    obtain ⟨hc, hd⟩ := bcell hb
    go_wp2
    go_ret
    exact ⟨rfl, three hb⟩
  · skip
    go_wp2_with fail
    refine (valid_any _ _ _).mono ?_
    rintro e v3 ⟨rfl, h⟩
    replace hb := hb.trans (h.mono hb.size)
    clear h hc hd
    obtain ⟨hc, hd⟩ := bcell hb
    go_wp2_with fail
    refine (valid_any _ _ _).mono ?_
    rintro e v4 ⟨rfl, h⟩
    replace hb := hb.trans (h.mono hb.size)
    clear h hc hd
    obtain ⟨hc, hd⟩ := bcell hb
    go_wp2
    go_ret
    exact ⟨rfl, three hb⟩
  · skip
    go_wp2_with fail
    refine (valid_any _ _ _).mono ?_
    rintro e v5 ⟨rfl, h⟩
    replace hb := hb.trans (h.mono hb.size)
    clear h hc hd
    obtain ⟨hc, hd⟩ := bcell hb
    go_wp2_with fail
    refine (valid_any _ _ _).mono ?_
    rintro e v6 ⟨rfl, h⟩
    replace hb := hb.trans (h.mono hb.size)
    clear h hc hd
    obtain ⟨hc, hd⟩ := bcell hb
    go_wp2_with fail
    refine (valid_any _ _ _).mono ?_
    rintro e v7 ⟨rfl, h⟩
    replace hb := hb.trans (h.mono hb.size)
    clear h hc hd
    obtain ⟨hc, hd⟩ := bcell hb
    go_wp2
    go_ret
    exact ⟨rfl, three hb⟩

set_option maxRecDepth 100000 in
set_option maxHeartbeats 8000000 in
theorem lawOrder_main (al ah bl bh cl ch : Int) (ha : Ivl.validB al ah = true) (hbb : Ivl.validB bl bh = true) (hcc : Ivl.validB cl ch = true)
    (c1 : Ivl.comb Ivl.plus bl bh al ah = Ivl.comb Ivl.plus al ah bl bh) (c2 : Ivl.comb Ivl.times bl bh al ah = Ivl.comb Ivl.times al ah bl bh) (c3 : Ivl.join bl bh al ah = Ivl.join al ah bl bh)
    (j1 : Ivl.join (Ivl.join al ah bl bh).1 (Ivl.join al ah bl bh).2 cl ch = Ivl.join al ah (Ivl.join bl bh cl ch).1 (Ivl.join bl bh cl ch).2) (j2 : Ivl.join al ah al ah = (al, ah)) (j3 : Ivl.comb Ivl.plus al ah 0 0 = (al, ah))
    (j4 : Ivl.comb Ivl.times al ah 1 1 = (al, ah)) (j5 : Ivl.comb Ivl.minus al ah 0 0 = (al, ah)) (w : World) :
    Calls Try.prog 6 #[.agg #[.int .i64 al, .int .i64 ah], .agg #[.int .i64 bl, .int .i64 bh], .agg #[.int .i64 cl, .int .i64 ch]] w fun e w' => e = .returned (.bool true) ∧ Below w.heap.size w w' := by
  go_enter Try.func6, Try.ntmps6
  go_wp2_with fail
  refine (head_any _).mono ?_
  rintro e v1 ⟨rfl, hb⟩
  obtain ⟨hc, hd⟩ := bcell hb
  have f1 := hc w.heap.size 0 (by simp only [size_alloc]; omega)
  have f2 := hc w.heap.size 1 (by simp only [size_alloc]; omega)
  have f3 := hc (w.heap.size + 1) 0 (by simp only [size_alloc]; omega)
  have f4 := hc (w.heap.size + 1) 1 (by simp only [size_alloc]; omega)
  have f5 := hc (w.heap.size + 1 + 1) 0 (by simp only [size_alloc]; omega)
  have f6 := hc (w.heap.size + 1 + 1) 1 (by simp only [size_alloc]; omega)
  simp [cell_alloc, Nat.add_assoc] at f1 f2 f3 f4 f5 f6
  clear hc hd
  go_wp2_with fail
  go_region_held3 (fun w' => w'.cell? ⟨w.heap.size, 0, none⟩ = some (.int .i64 al) ∧ w'.cell? ⟨w.heap.size, 1, none⟩ = some (.int .i64 ah) ∧ w'.cell? ⟨w.heap.size + 1, 0, none⟩ = some (.int .i64 bl) ∧ w'.cell? ⟨w.heap.size + 1, 1, none⟩ = some (.int .i64 bh) ∧
      w'.cell? ⟨w.heap.size + 1 + 1, 0, none⟩ = some (.int .i64 cl) ∧ w'.cell? ⟨w.heap.size + 1 + 1, 1, none⟩ = some (.int .i64 ch) ∧
      Below (((w.alloc (.cells #[.int .i64 al, .int .i64 ah] 23)).alloc (.cells #[.int .i64 bl, .int .i64 bh] 23)).alloc (.cells #[.int .i64 cl, .int .i64 ch] 23)).heap.size
        (((w.alloc (.cells #[.int .i64 al, .int .i64 ah] 23)).alloc (.cells #[.int .i64 bl, .int .i64 bh] 23)).alloc (.cells #[.int .i64 cl, .int .i64 ch] 23)) w')
    (first
      | exact ⟨f1, f2, f3, f4, f5, f6, hb.drew⟩ | exact ⟨f1, f2, f3, f4, f5, f6, hb⟩
      | exact keep6 h' ⟨f1, f2, f3, f4, f5, f6, hb.drew⟩ (by simp only [size_alloc]; omega) (by simp only [size_alloc]; omega) (by simp only [size_alloc]; omega) (by simp only [size_alloc]; omega) (by simp only [size_alloc]; omega) (by simp only [size_alloc]; omega)
      | exact keep6 h' (by assumption) (by simp only [size_alloc]; omega) (by simp only [size_alloc]; omega) (by simp only [size_alloc]; omega) (by simp only [size_alloc]; omega) (by simp only [size_alloc]; omega) (by simp only [size_alloc]; omega))
    (first
      | (go_at_call 13; refine (add_any _ _ _ _ _).mono ?_; rintro e w' ⟨rfl, h'⟩)
      | (go_at_call 17; refine (mul_any _ _ _ _ _).mono ?_; rintro e w' ⟨rfl, h'⟩)
      | (go_at_call 19; refine (join_any _ _ _ _ _).mono ?_; rintro e w' ⟨rfl, h'⟩))
  obtain ⟨k1, k2, k3, k4, k5, k6, hb2⟩ := six_out (w := w) (w2 := w') (al := al) (ah := ah) (bl := bl) (bh := bh) (cl := cl) (ch := ch) (by assumption)
  clear k1 k2 k3 k4 k5 k6 f1 f2 f3 f4 f5 f6 hb
  have hb := hb2
  clear hb2
  obtain ⟨hc, hd⟩ := bcell hb
  go_wp2_with fail
  refine (valid_any _ _ _).mono ?_
  rintro e v2 ⟨rfl, h⟩
  replace hb := hb.trans (h.mono hb.size)
  clear h hc hd
  obtain ⟨hc, hd⟩ := bcell hb
  go_wp2_with fail
  refine (valid_any _ _ _).mono ?_
  rintro e v3 ⟨rfl, h⟩
  replace hb := hb.trans (h.mono hb.size)
  clear h hc hd
  obtain ⟨hc, hd⟩ := bcell hb
  go_wp2_with fail
  refine (valid_any _ _ _).mono ?_
  rintro e v4 ⟨rfl, h⟩
  replace hb := hb.trans (h.mono hb.size)
  clear h hc hd
  obtain ⟨hc, hd⟩ := bcell hb
  have f1 := hc w.heap.size 0 (by simp only [size_alloc]; omega)
  have f2 := hc w.heap.size 1 (by simp only [size_alloc]; omega)
  have f3 := hc (w.heap.size + 1) 0 (by simp only [size_alloc]; omega)
  have f4 := hc (w.heap.size + 1) 1 (by simp only [size_alloc]; omega)
  have f5 := hc (w.heap.size + 1 + 1) 0 (by simp only [size_alloc]; omega)
  have f6 := hc (w.heap.size + 1 + 1) 1 (by simp only [size_alloc]; omega)
  simp [cell_alloc, Nat.add_assoc] at f1 f2 f3 f4 f5 f6
  clear hc hd
  go_wp2_with fail
  go_region_held3 (fun w' => w'.cell? ⟨w.heap.size, 0, none⟩ = some (.int .i64 al) ∧ w'.cell? ⟨w.heap.size, 1, none⟩ = some (.int .i64 ah) ∧ w'.cell? ⟨w.heap.size + 1, 0, none⟩ = some (.int .i64 bl) ∧ w'.cell? ⟨w.heap.size + 1, 1, none⟩ = some (.int .i64 bh) ∧
      w'.cell? ⟨w.heap.size + 1 + 1, 0, none⟩ = some (.int .i64 cl) ∧ w'.cell? ⟨w.heap.size + 1 + 1, 1, none⟩ = some (.int .i64 ch) ∧
      Below (((w.alloc (.cells #[.int .i64 al, .int .i64 ah] 23)).alloc (.cells #[.int .i64 bl, .int .i64 bh] 23)).alloc (.cells #[.int .i64 cl, .int .i64 ch] 23)).heap.size
        (((w.alloc (.cells #[.int .i64 al, .int .i64 ah] 23)).alloc (.cells #[.int .i64 bl, .int .i64 bh] 23)).alloc (.cells #[.int .i64 cl, .int .i64 ch] 23)) w')
    (first
      | exact ⟨f1, f2, f3, f4, f5, f6, hb.drew⟩ | exact ⟨f1, f2, f3, f4, f5, f6, hb⟩
      | exact keep6 h' ⟨f1, f2, f3, f4, f5, f6, hb.drew⟩ (by simp only [size_alloc]; omega) (by simp only [size_alloc]; omega) (by simp only [size_alloc]; omega) (by simp only [size_alloc]; omega) (by simp only [size_alloc]; omega) (by simp only [size_alloc]; omega)
      | exact keep6 h' (by assumption) (by simp only [size_alloc]; omega) (by simp only [size_alloc]; omega) (by simp only [size_alloc]; omega) (by simp only [size_alloc]; omega) (by simp only [size_alloc]; omega) (by simp only [size_alloc]; omega))
    (first
      | (go_at_call 13; refine (add_any _ _ _ _ _).mono ?_; rintro e w' ⟨rfl, h'⟩)
      | (go_at_call 17; refine (mul_any _ _ _ _ _).mono ?_; rintro e w' ⟨rfl, h'⟩)
      | (go_at_call 19; refine (join_any _ _ _ _ _).mono ?_; rintro e w' ⟨rfl, h'⟩)
      | (go_at_call 15; refine (sub_any _ _ _ _ _).mono ?_; rintro e w' ⟨rfl, h'⟩)
      | (go_at_call 32; refine (of_any _ _ _).mono ?_; rintro e w' ⟨rfl, h'⟩))
  all_goals
    go_wp2
    go_ret
    exact ⟨rfl, six_end (by assumption)⟩

theorem lawOrder_any (al ah bl bh cl ch : Int) (w : World) :
    Calls Try.prog 6 #[.agg #[.int .i64 al, .int .i64 ah], .agg #[.int .i64 bl, .int .i64 bh], .agg #[.int .i64 cl, .int .i64 ch]] w fun e w' => e = .returned (.bool true) ∧ Below w.heap.size w w' := by
  have c1 := Ivl.comb_comm Ivl.plus_comm al ah bl bh
  have c2 := Ivl.comb_comm Ivl.times_comm al ah bl bh
  have c3 := Ivl.join_comm al ah bl bh
  cases ha : Ivl.validB al ah
  · exact lawOrder_skip al ah bl bh cl ch (Or.inl ha) c1 c2 c3 w
  · cases hb : Ivl.validB bl bh
    · exact lawOrder_skip al ah bl bh cl ch (Or.inr (Or.inl ⟨ha, hb⟩)) c1 c2 c3 w
    · cases hc : Ivl.validB cl ch
      · exact lawOrder_skip al ah bl bh cl ch (Or.inr (Or.inr ⟨ha, hb, hc⟩)) c1 c2 c3 w
      · exact lawOrder_main al ah bl bh cl ch ha hb hc c1 c2 c3 (Ivl.join_assoc ha hb hc) (Ivl.join_self ha) (Ivl.plus_zero ha) (Ivl.times_one ha) (Ivl.minus_zero ha) w

end Go.Proofs.Ytkbomnipidmopaa
