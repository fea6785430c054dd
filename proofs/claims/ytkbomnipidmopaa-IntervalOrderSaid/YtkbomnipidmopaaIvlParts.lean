/- The statement on parts of intervals: its walk. -/
import Derived.Test.YtkbomnipidmopaaIvlWalksE
import Derived.Deep.RegionHeld3
namespace Go.Proofs.Ytkbomnipidmopaa
open Go.RowKit

/-- What a call that only makes memory leaves of six cells. -/
theorem keep6 {W0 w1 w2 : World} {a b c d e f : Addr} {x1 x2 x3 x4 x5 x6 : Value} (hb : Below w1.heap.size w1 w2)
    (h : w1.cell? a = some x1 ∧ w1.cell? b = some x2 ∧ w1.cell? c = some x3 ∧ w1.cell? d = some x4 ∧ w1.cell? e = some x5 ∧ w1.cell? f = some x6 ∧ Below W0.heap.size W0 w1)
    (ha : a.block < W0.heap.size) (hb1 : b.block < W0.heap.size) (hc : c.block < W0.heap.size) (hd : d.block < W0.heap.size) (he : e.block < W0.heap.size) (hf : f.block < W0.heap.size) :
    w2.cell? a = some x1 ∧ w2.cell? b = some x2 ∧ w2.cell? c = some x3 ∧ w2.cell? d = some x4 ∧ w2.cell? e = some x5 ∧ w2.cell? f = some x6 ∧ Below W0.heap.size W0 w2 := by
  obtain ⟨h1, h2, h3, h4, h5, h6, h7⟩ := h
  have z := h7.size
  refine ⟨?_, ?_, ?_, ?_, ?_, ?_, h7.trans (hb.mono z)⟩
  · rw [hb.cell (Nat.lt_of_lt_of_le ha z)]; exact h1
  · rw [hb.cell (Nat.lt_of_lt_of_le hb1 z)]; exact h2
  · rw [hb.cell (Nat.lt_of_lt_of_le hc z)]; exact h3
  · rw [hb.cell (Nat.lt_of_lt_of_le hd z)]; exact h4
  · rw [hb.cell (Nat.lt_of_lt_of_le he z)]; exact h5
  · rw [hb.cell (Nat.lt_of_lt_of_le hf z)]; exact h6
theorem three {w w2 : World} {o1 o2 o3 : Obj} (h : Below (((w.alloc o1).alloc o2).alloc o3).heap.size (((w.alloc o1).alloc o2).alloc o3) w2) : Below w.heap.size w w2 :=
  ((((Below.refl _ _).alloc (Nat.le_refl _) _).alloc (by rw [size_alloc]; omega) _).alloc (by rw [size_alloc, size_alloc]; omega) _).trans (h.mono (by rw [size_alloc, size_alloc, size_alloc]; omega))

theorem six_end {w w2 : World} {o1 o2 o3 : Obj} {a b c d e f : Prop} (h : a ∧ b ∧ c ∧ d ∧ e ∧ f ∧ Below (((w.alloc o1).alloc o2).alloc o3).heap.size (((w.alloc o1).alloc o2).alloc o3) w2) : Below w.heap.size w w2 :=
  three h.2.2.2.2.2.2

set_option maxRecDepth 100000 in
set_option maxHeartbeats 4000000 in
theorem lawParts_skip (al ah bl bh cl ch : Int) (hv : Ivl.validB al ah = false ∨ Ivl.validB al ah = true ∧ Ivl.validB bl bh = false ∨ Ivl.validB al ah = true ∧ Ivl.validB bl bh = true ∧ Ivl.validB cl ch = false ∨ Ivl.validB al ah = true ∧ Ivl.validB bl bh = true ∧ Ivl.validB cl ch = true ∧ Ivl.partB al ah bl bh = false) (w : World) :
    Calls Try.prog 7 #[.agg #[.int .i64 al, .int .i64 ah], .agg #[.int .i64 bl, .int .i64 bh], .agg #[.int .i64 cl, .int .i64 ch]] w fun e w' => e = .returned (.bool true) ∧ Below w.heap.size w w' := by
  rcases hv with ha | ⟨ha, hbb⟩ | ⟨ha, hbb, hcc⟩ | ⟨ha, hbb, hcc, hp⟩
  · go_enter Try.func7, Try.ntmps7
    go_wp2_with fail
    refine (head_any _).mono ?_
    rintro e v1 ⟨rfl, hb⟩
    obtain ⟨hc, hd⟩ := bcell hb
    go_wp2_with fail
    refine (valid_any _ _ _).mono ?_
    rintro e v2 ⟨rfl, h⟩
    replace hb := hb.trans (h.mono hb.size)
    clear h hc hd
    obtain ⟨hc, hd⟩ := bcell hb
    go_wp2
    go_ret
    exact ⟨rfl, three hb⟩
  · go_enter Try.func7, Try.ntmps7
    go_wp2_with fail
    refine (head_any _).mono ?_
    rintro e v3 ⟨rfl, hb⟩
    obtain ⟨hc, hd⟩ := bcell hb
    go_wp2_with fail
    refine (valid_any _ _ _).mono ?_
    rintro e v4 ⟨rfl, h⟩
    replace hb := hb.trans (h.mono hb.size)
    clear h hc hd
    obtain ⟨hc, hd⟩ := bcell hb
    go_wp2_with fail
    refine (valid_any _ _ _).mono ?_
    rintro e v5 ⟨rfl, h⟩
    replace hb := hb.trans (h.mono hb.size)
    clear h hc hd
    obtain ⟨hc, hd⟩ := bcell hb
    go_wp2
    go_ret
    exact ⟨rfl, three hb⟩
  · go_enter Try.func7, Try.ntmps7
    go_wp2_with fail
    refine (head_any _).mono ?_
    rintro e v6 ⟨rfl, hb⟩
    obtain ⟨hc, hd⟩ := bcell hb
    go_wp2_with fail
    refine (valid_any _ _ _).mono ?_
    rintro e v7 ⟨rfl, h⟩
    replace hb := hb.trans (h.mono hb.size)
    clear h hc hd
    obtain ⟨hc, hd⟩ := bcell hb
    go_wp2_with fail
    refine (valid_any _ _ _).mono ?_
    rintro e v8 ⟨rfl, h⟩
    replace hb := hb.trans (h.mono hb.size)
    clear h hc hd
    obtain ⟨hc, hd⟩ := bcell hb
    go_wp2_with fail
    refine (valid_any _ _ _).mono ?_
    rintro e v9 ⟨rfl, h⟩
    replace hb := hb.trans (h.mono hb.size)
    clear h hc hd
    obtain ⟨hc, hd⟩ := bcell hb
    go_wp2
    go_ret
    exact ⟨rfl, three hb⟩
  · go_enter Try.func7, Try.ntmps7
    go_wp2_with fail
    refine (head_any _).mono ?_
    rintro e v10 ⟨rfl, hb⟩
    obtain ⟨hc, hd⟩ := bcell hb
    go_wp2_with fail
    refine (valid_any _ _ _).mono ?_
    rintro e v11 ⟨rfl, h⟩
    replace hb := hb.trans (h.mono hb.size)
    clear h hc hd
    obtain ⟨hc, hd⟩ := bcell hb
    go_wp2_with fail
    refine (valid_any _ _ _).mono ?_
    rintro e v12 ⟨rfl, h⟩
    replace hb := hb.trans (h.mono hb.size)
    clear h hc hd
    obtain ⟨hc, hd⟩ := bcell hb
    go_wp2_with fail
    refine (valid_any _ _ _).mono ?_
    rintro e v13 ⟨rfl, h⟩
    replace hb := hb.trans (h.mono hb.size)
    clear h hc hd
    obtain ⟨hc, hd⟩ := bcell hb
    go_wp2_with fail
    refine (part_any _ _ _ _ _).mono ?_
    rintro e v14 ⟨rfl, h⟩
    replace hb := hb.trans (h.mono hb.size)
    clear h hc hd
    obtain ⟨hc, hd⟩ := bcell hb
    go_wp2
    go_ret
    exact ⟨rfl, three hb⟩

set_option maxRecDepth 100000 in
set_option maxHeartbeats 8000000 in
theorem lawParts_main (al ah bl bh cl ch : Int) (ha : Ivl.validB al ah = true) (hbb : Ivl.validB bl bh = true) (hcc : Ivl.validB cl ch = true) (hp : Ivl.partB al ah bl bh = true)
    (p1 : Ivl.partB (Ivl.comb Ivl.plus al ah cl ch).1 (Ivl.comb Ivl.plus al ah cl ch).2 (Ivl.comb Ivl.plus bl bh cl ch).1 (Ivl.comb Ivl.plus bl bh cl ch).2 = true)
    (p2 : Ivl.partB (Ivl.comb Ivl.minus al ah cl ch).1 (Ivl.comb Ivl.minus al ah cl ch).2 (Ivl.comb Ivl.minus bl bh cl ch).1 (Ivl.comb Ivl.minus bl bh cl ch).2 = true)
    (p3 : Ivl.partB (Ivl.comb Ivl.minus cl ch al ah).1 (Ivl.comb Ivl.minus cl ch al ah).2 (Ivl.comb Ivl.minus cl ch bl bh).1 (Ivl.comb Ivl.minus cl ch bl bh).2 = true)
    (p4 : Ivl.partB (Ivl.comb Ivl.times al ah cl ch).1 (Ivl.comb Ivl.times al ah cl ch).2 (Ivl.comb Ivl.times bl bh cl ch).1 (Ivl.comb Ivl.times bl bh cl ch).2 = true)
    (p5 : Ivl.partB (Ivl.join al ah cl ch).1 (Ivl.join al ah cl ch).2 (Ivl.join bl bh cl ch).1 (Ivl.join bl bh cl ch).2 = true) (w : World) :
    Calls Try.prog 7 #[.agg #[.int .i64 al, .int .i64 ah], .agg #[.int .i64 bl, .int .i64 bh], .agg #[.int .i64 cl, .int .i64 ch]] w fun e w' => e = .returned (.bool true) ∧ Below w.heap.size w w' := by
  go_enter Try.func7, Try.ntmps7
  go_wp2_with fail
  refine (head_any _).mono ?_
  rintro e v1 ⟨rfl, hb⟩
  obtain ⟨hc, hd⟩ := bcell hb
  go_wp2_with fail
  refine (valid_any _ _ _).mono ?_
  rintro e v2 ⟨rfl, h⟩
  replace hb := hb.trans (h.mono hb.size)
  clear h hc hd
  obtain ⟨hc, hd⟩ := bcell hb
  go_wp2_with fail
  refine (valid_any _ _ _).mono ?_
  rintro e v3 ⟨rfl, h⟩
  replace hb := hb.trans (h.mono hb.size)
  clear h hc hd
  obtain ⟨hc, hd⟩ := bcell hb
  go_wp2_with fail
  refine (valid_any _ _ _).mono ?_
  rintro e v4 ⟨rfl, h⟩
  replace hb := hb.trans (h.mono hb.size)
  clear h hc hd
  obtain ⟨hc, hd⟩ := bcell hb
  go_wp2_with fail
  refine (part_any _ _ _ _ _).mono ?_
  rintro e v5 ⟨rfl, h⟩
  replace hb := hb.trans (h.mono hb.size)
  clear h hc hd
  obtain ⟨hc, hd⟩ := bcell hb
  have f1 := hc w.heap.size 0 (by simp only [size_alloc]; omega)
  have f2 := hc w.heap.size 1 (by simp only [size_alloc]; omega)
  have f3 := hc (w.heap.size + 1) 0 (by simp only [size_alloc]; omega)
  have f4 := hc (w.heap.size + 1) 1 (by simp only [size_alloc]; omega)
  have f5 := hc (w.heap.size + 1 + 1) 0 (by simp only [size_alloc]; omega)
  have f6 := hc (w.heap.size + 1 + 1) 1 (by simp only [size_alloc]; omega)
  simp [cell_alloc, Nat.add_assoc] at f1 f2 f3 f4 f5 f6
  clear hc hd
  go_wp2_with fail
  go_region_held3 (fun w' => w'.cell? ⟨w.heap.size, 0, none⟩ = some (.int .i64 al) ∧ w'.cell? ⟨w.heap.size, 1, none⟩ = some (.int .i64 ah) ∧ w'.cell? ⟨w.heap.size + 1, 0, none⟩ = some (.int .i64 bl) ∧ w'.cell? ⟨w.heap.size + 1, 1, none⟩ = some (.int .i64 bh) ∧
      w'.cell? ⟨w.heap.size + 1 + 1, 0, none⟩ = some (.int .i64 cl) ∧ w'.cell? ⟨w.heap.size + 1 + 1, 1, none⟩ = some (.int .i64 ch) ∧
      Below (((w.alloc (.cells #[.int .i64 al, .int .i64 ah] 23)).alloc (.cells #[.int .i64 bl, .int .i64 bh] 23)).alloc (.cells #[.int .i64 cl, .int .i64 ch] 23)).heap.size
        (((w.alloc (.cells #[.int .i64 al, .int .i64 ah] 23)).alloc (.cells #[.int .i64 bl, .int .i64 bh] 23)).alloc (.cells #[.int .i64 cl, .int .i64 ch] 23)) w')
    (first
      | exact ⟨f1, f2, f3, f4, f5, f6, hb.drew⟩ | exact ⟨f1, f2, f3, f4, f5, f6, hb⟩
      | exact keep6 h' ⟨f1, f2, f3, f4, f5, f6, hb.drew⟩ (by simp only [size_alloc]; omega) (by simp only [size_alloc]; omega) (by simp only [size_alloc]; omega) (by simp only [size_alloc]; omega) (by simp only [size_alloc]; omega) (by simp only [size_alloc]; omega)
      | exact keep6 h' (by assumption) (by simp only [size_alloc]; omega) (by simp only [size_alloc]; omega) (by simp only [size_alloc]; omega) (by simp only [size_alloc]; omega) (by simp only [size_alloc]; omega) (by simp only [size_alloc]; omega))
    (first
      | (go_at_call 13; refine (add_any _ _ _ _ _).mono ?_; rintro e w' ⟨rfl, h'⟩)
      | (go_at_call 15; refine (sub_any _ _ _ _ _).mono ?_; rintro e w' ⟨rfl, h'⟩)
      | (go_at_call 17; refine (mul_any _ _ _ _ _).mono ?_; rintro e w' ⟨rfl, h'⟩)
      | (go_at_call 19; refine (join_any _ _ _ _ _).mono ?_; rintro e w' ⟨rfl, h'⟩)
      | (go_at_call 33; refine (part_any _ _ _ _ _).mono ?_; rintro e w' ⟨rfl, h'⟩))
  all_goals
    go_wp2
    go_ret
    exact ⟨rfl, six_end (by assumption)⟩

theorem lawParts_any (al ah bl bh cl ch : Int) (w : World) :
    Calls Try.prog 7 #[.agg #[.int .i64 al, .int .i64 ah], .agg #[.int .i64 bl, .int .i64 bh], .agg #[.int .i64 cl, .int .i64 ch]] w fun e w' => e = .returned (.bool true) ∧ Below w.heap.size w w' := by
  cases ha : Ivl.validB al ah
  · exact lawParts_skip al ah bl bh cl ch (Or.inl ha) w
  · cases hb : Ivl.validB bl bh
    · exact lawParts_skip al ah bl bh cl ch (Or.inr (Or.inl ⟨ha, hb⟩)) w
    · cases hc : Ivl.validB cl ch
      · exact lawParts_skip al ah bl bh cl ch (Or.inr (Or.inr (Or.inl ⟨ha, hb, hc⟩))) w
      · cases hp : Ivl.partB al ah bl bh
        · exact lawParts_skip al ah bl bh cl ch (Or.inr (Or.inr (Or.inr ⟨ha, hb, hc, hp⟩))) w
        · have hs : Ivl.partB cl ch cl ch = true := Ivl.part_iff.2 ⟨Int.le_refl _, Int.le_refl _⟩
          exact lawParts_main al ah bl bh cl ch ha hb hc hp (Ivl.comb_part Ivl.incl_plus ha hb hc hc hp hs) (Ivl.comb_part Ivl.incl_minus ha hb hc hc hp hs) (Ivl.comb_part Ivl.incl_minus hc hc ha hb hs hp)
            (Ivl.comb_part Ivl.incl_times ha hb hc hc hp hs) (Ivl.join_part ha hb hc hp) w

end Go.Proofs.Ytkbomnipidmopaa
