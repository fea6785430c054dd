/- The statement on elements of intervals: its walk. -/
import Derived.Test.YthnipdcdiffioaaIvlIn
import Derived.Test.YthnipdcdiffioaaIvlKeep
import Derived.Test.YthnipdcdiffioaaIvlFresh
import Derived.Test.YthnipdcdiffioaaIvlMathC
namespace Go.Proofs.Ythnipdcdiffioaa
open Go.RowKit

theorem two {w w2 : World} {o1 o2 : Obj} (h : Below ((w.alloc o1).alloc o2).heap.size ((w.alloc o1).alloc o2) w2) : Below w.heap.size w w2 :=
  (((Below.refl _ _).alloc (Nat.le_refl _) _).alloc (by rw [size_alloc]; omega) _).trans (h.mono (by rw [size_alloc, size_alloc]; omega))

theorem in_true {l h n : Int} (hi : Ivl.inB l h n = true) (w : World) :
    Calls Try.prog 24 #[.agg #[.int .i64 l, .int .i64 h], .int .i64 n] w fun e w' => e = .returned (.bool true) ∧ Below w.heap.size w w' := by
  have := in_any l h n w
  rwa [hi] at this

set_option maxRecDepth 100000 in
set_option maxHeartbeats 4000000 in
theorem lawElem_skip (al ah bl bh x y : Int) (hv : Ivl.validB al ah = false ∨ Ivl.validB al ah = true ∧ Ivl.validB bl bh = false ∨ Ivl.validB al ah = true ∧ Ivl.validB bl bh = true ∧ Ivl.inB al ah x = false ∨ Ivl.validB al ah = true ∧ Ivl.validB bl bh = true ∧ Ivl.inB al ah x = true ∧ Ivl.inB bl bh y = false) (w : World) :
    Calls Try.prog 4 #[.agg #[.int .i64 al, .int .i64 ah], .agg #[.int .i64 bl, .int .i64 bh], .int .i64 x, .int .i64 y] w fun e w' => e = .returned (.bool true) ∧ Below w.heap.size w w' := by
  rcases hv with ha | ⟨ha, hbb⟩ | ⟨ha, hbb, hx⟩ | ⟨ha, hbb, hx, hy⟩
  · go_enter Try.func4, Try.ntmps4
    go_wp2_with fail
    refine (head_any _).mono ?_
    rintro e v1 ⟨rfl, hb⟩
    obtain ⟨hc, hd⟩ := bcell hb
    go_wp2_with fail
    refine (valid_any _ _ _).mono ?_
    rintro e v2 ⟨rfl, h⟩
    replace hb := hb.trans (h.mono hb.size)
    clear h hc hd
    obtain ⟨hc, hd⟩ := bcell hb
    go_wp2
    go_ret
    exact ⟨rfl, two hb⟩
  · go_enter Try.func4, Try.ntmps4
    go_wp2_with fail
    refine (head_any _).mono ?_
    rintro e v3 ⟨rfl, hb⟩
    obtain ⟨hc, hd⟩ := bcell hb
    go_wp2_with fail
    refine (valid_any _ _ _).mono ?_
    rintro e v4 ⟨rfl, h⟩
    replace hb := hb.trans (h.mono hb.size)
    clear h hc hd
    obtain ⟨hc, hd⟩ := bcell hb
    go_wp2_with fail
    refine (valid_any _ _ _).mono ?_
    rintro e v5 ⟨rfl, h⟩
    replace hb := hb.trans (h.mono hb.size)
    clear h hc hd
    obtain ⟨hc, hd⟩ := bcell hb
    go_wp2
    go_ret
    exact ⟨rfl, two hb⟩
  · go_enter Try.func4, Try.ntmps4
    go_wp2_with fail
    refine (head_any _).mono ?_
    rintro e v6 ⟨rfl, hb⟩
    obtain ⟨hc, hd⟩ := bcell hb
    go_wp2_with fail
    refine (valid_any _ _ _).mono ?_
    rintro e v7 ⟨rfl, h⟩
    replace hb := hb.trans (h.mono hb.size)
    clear h hc hd
    obtain ⟨hc, hd⟩ := bcell hb
    go_wp2_with fail
    refine (valid_any _ _ _).mono ?_
    rintro e v8 ⟨rfl, h⟩
    replace hb := hb.trans (h.mono hb.size)
    clear h hc hd
    obtain ⟨hc, hd⟩ := bcell hb
    go_wp2_with fail
    refine (in_any _ _ _ _).mono ?_
    rintro e v9 ⟨rfl, h⟩
    replace hb := hb.trans (h.mono hb.size)
    clear h hc hd
    obtain ⟨hc, hd⟩ := bcell hb
    go_wp2
    go_ret
    exact ⟨rfl, two hb⟩
  · go_enter Try.func4, Try.ntmps4
    go_wp2_with fail
    refine (head_any _).mono ?_
    rintro e v10 ⟨rfl, hb⟩
    obtain ⟨hc, hd⟩ := bcell hb
    go_wp2_with fail
    refine (valid_any _ _ _).mono ?_
    rintro e v11 ⟨rfl, h⟩
    replace hb := hb.trans (h.mono hb.size)
    clear h hc hd
    obtain ⟨hc, hd⟩ := bcell hb
    go_wp2_with fail
    refine (valid_any _ _ _).mono ?_
    rintro e v12 ⟨rfl, h⟩
    replace hb := hb.trans (h.mono hb.size)
    clear h hc hd
    obtain ⟨hc, hd⟩ := bcell hb
    go_wp2_with fail
    refine (in_any _ _ _ _).mono ?_
    rintro e v13 ⟨rfl, h⟩
    replace hb := hb.trans (h.mono hb.size)
    clear h hc hd
    obtain ⟨hc, hd⟩ := bcell hb
    go_wp2_with fail
    refine (in_any _ _ _ _).mono ?_
    rintro e v14 ⟨rfl, h⟩
    replace hb := hb.trans (h.mono hb.size)
    clear h hc hd
    obtain ⟨hc, hd⟩ := bcell hb
    go_wp2
    go_ret
    exact ⟨rfl, two hb⟩

set_option maxRecDepth 100000 in
set_option maxHeartbeats 8000000 in
theorem lawElem_main (al ah bl bh x y : Int) (ha : Ivl.validB al ah = true) (hbb : Ivl.validB bl bh = true) (hx : Ivl.inB al ah x = true) (hy : Ivl.inB bl bh y = true) (w : World) :
    Calls Try.prog 4 #[.agg #[.int .i64 al, .int .i64 ah], .agg #[.int .i64 bl, .int .i64 bh], .int .i64 x, .int .i64 y] w fun e w' => e = .returned (.bool true) ∧ Below w.heap.size w w' := by
  go_enter Try.func4, Try.ntmps4
  go_wp2_with fail
  refine (head_any _).mono ?_
  rintro e v1 ⟨rfl, hb⟩
  obtain ⟨hc, hd⟩ := bcell hb
  go_wp2_with fail
  refine (valid_any _ _ _).mono ?_
  rintro e v2 ⟨rfl, h⟩
  replace hb := hb.trans (h.mono hb.size)
  clear h hc hd
  obtain ⟨hc, hd⟩ := bcell hb
  go_wp2_with fail
  refine (valid_any _ _ _).mono ?_
  rintro e v3 ⟨rfl, h⟩
  replace hb := hb.trans (h.mono hb.size)
  clear h hc hd
  obtain ⟨hc, hd⟩ := bcell hb
  go_wp2_with fail
  refine (in_any _ _ _ _).mono ?_
  rintro e v4 ⟨rfl, h⟩
  replace hb := hb.trans (h.mono hb.size)
  clear h hc hd
  obtain ⟨hc, hd⟩ := bcell hb
  go_wp2_with fail
  refine (in_any _ _ _ _).mono ?_
  rintro e v5 ⟨rfl, h⟩
  replace hb := hb.trans (h.mono hb.size)
  clear h hc hd
  obtain ⟨hc, hd⟩ := bcell hb
  go_wp2_with fail
  refine (refValid_any _ _ _).mono ?_
  rintro e v6 ⟨rfl, h⟩
  replace hb := hb.trans (h.mono hb.size)
  clear h hc hd
  obtain ⟨hc, hd⟩ := bcell hb
  go_wp2_with fail
  refine (refValid_any _ _ _).mono ?_
  rintro e v7 ⟨rfl, h⟩
  replace hb := hb.trans (h.mono hb.size)
  clear h hc hd
  obtain ⟨hc, hd⟩ := bcell hb
  have f1 := hc w.heap.size 0 (by simp only [size_alloc]; omega)
  have f2 := hc w.heap.size 1 (by simp only [size_alloc]; omega)
  have f3 := hc (w.heap.size + 1) 0 (by simp only [size_alloc]; omega)
  have f4 := hc (w.heap.size + 1) 1 (by simp only [size_alloc]; omega)
  simp [cell_alloc, Nat.add_assoc] at f1 f2 f3 f4
  clear hc hd
  have z7 : w.heap.size + 2 ≤ v7.heap.size := by have := hb.size; simp only [size_alloc] at this; omega
  replace hb := two hb
  go_wp2_with fail
  apply wp_region_fresh 12 4 110 (fun _ => #[.int .i64 0, .int .i64 0]) (fun k => if k = 0 then #[.int .i64 (Ivl.comb Ivl.plus al ah bl bh).1, .int .i64 (Ivl.comb Ivl.plus al ah bl bh).2] else if k = 1 then #[.int .i64 (Ivl.comb Ivl.minus al ah bl bh).1, .int .i64 (Ivl.comb Ivl.minus al ah bl bh).2] else if k = 2 then #[.int .i64 (Ivl.comb Ivl.times al ah bl bh).1, .int .i64 (Ivl.comb Ivl.times al ah bl bh).2] else #[.int .i64 (Ivl.join al ah bl bh).1, .int .i64 (Ivl.join al ah bl bh).2]) _ (by kernel_rfl) (by kernel_rfl) rfl
  · intro w0 h0
    have z0 := h0.size
    have q1 : ∀ x : Grown w0, x.w.cell? ⟨w.heap.size, 0, none⟩ = some (.int .i64 al) := fun x => by rw [x.cell (by omega), h0.cell (p := ⟨w.heap.size, 0, none⟩) (by show w.heap.size < _; omega), f1]
    have q2 : ∀ x : Grown w0, x.w.cell? ⟨w.heap.size, 1, none⟩ = some (.int .i64 ah) := fun x => by rw [x.cell (by omega), h0.cell (p := ⟨w.heap.size, 1, none⟩) (by show w.heap.size < _; omega), f2]
    have q3 : ∀ x : Grown w0, x.w.cell? ⟨w.heap.size + 1, 0, none⟩ = some (.int .i64 bl) := fun x => by rw [x.cell (by omega), h0.cell (p := ⟨w.heap.size + 1, 0, none⟩) (by show w.heap.size + 1 < _; omega), f3]
    have q4 : ∀ x : Grown w0, x.w.cell? ⟨w.heap.size + 1, 1, none⟩ = some (.int .i64 bh) := fun x => by rw [x.cell (by omega), h0.cell (p := ⟨w.heap.size + 1, 1, none⟩) (by show w.heap.size + 1 < _; omega), f4]
    clear h0
    simp only [List.take_succ_cons, List.take_zero]
    repeat (go_big_quiet_step (first
      | (go_at_call 8; exact grown_of (add_any _ _ _ _ _))
      | (go_at_call 10; exact grown_of (sub_any _ _ _ _ _))
      | (go_at_call 12; exact grown_of (mul_any _ _ _ _ _))
      | (go_at_call 14; exact grown_of (join_any _ _ _ _ _))))
    exact wpQuiet_nil rfl
  · intro k hk o ho
    have hc : k = 0 ∨ k = 1 ∨ k = 2 ∨ k = 3 := by omega
    rcases hc with rfl | rfl | rfl | rfl <;>
      (simp only [List.getElem?_cons_succ, List.getElem?_cons_zero, Option.some.injEq] at ho
       subst ho
       exact ⟨_, fun ρ w' => run_alloc_ivl _ _ _ _ _ ρ w'⟩)
  · intro k hk o ho A b w' hP hV hle hz
    have hc : k = 0 ∨ k = 1 ∨ k = 2 ∨ k = 3 := by omega
    have h0 := (hz 0 (by decide)).1
    have h1 := (hz 1 (by decide)).1
    have g0 := (hz 0 (by decide)).2
    have g1 := (hz 1 (by decide)).2
    rcases hc with rfl | rfl | rfl | rfl <;>
      (simp only [List.getElem?_cons_succ, List.getElem?_cons_zero, Option.some.injEq] at ho
       subst ho
       exact ⟨_, run_store_ivl _ _ _ _ _ _ _ A b _ _ _ _ w' (hP _ rfl) ((hV _ (by decide) (by simp [dstOf])).trans rfl) h0 h1 g0 g1, stores_done rfl hle h0 h1 g0 g1⟩)
  · rintro b w' ⟨hbl, hhi, hlo, hcl, hoth⟩
    have l0 := hlo 0 (by omega)
    have l1 := hlo 1 (by omega)
    have l2 := hlo 2 (by omega)
    have l3 := hlo 3 (by omega)
    have k00 : w'.cell? ⟨b 0, 0, none⟩ = some (.int .i64 (Ivl.comb Ivl.plus al ah bl bh).1) := (hcl 0 (by omega) 0 (by decide)).1
    have k01 : w'.cell? ⟨b 0, 1, none⟩ = some (.int .i64 (Ivl.comb Ivl.plus al ah bl bh).2) := (hcl 0 (by omega) 1 (by decide)).1
    have k10 : w'.cell? ⟨b 1, 0, none⟩ = some (.int .i64 (Ivl.comb Ivl.minus al ah bl bh).1) := (hcl 1 (by omega) 0 (by decide)).1
    have k11 : w'.cell? ⟨b 1, 1, none⟩ = some (.int .i64 (Ivl.comb Ivl.minus al ah bl bh).2) := (hcl 1 (by omega) 1 (by decide)).1
    have k20 : w'.cell? ⟨b 2, 0, none⟩ = some (.int .i64 (Ivl.comb Ivl.times al ah bl bh).1) := (hcl 2 (by omega) 0 (by decide)).1
    have k21 : w'.cell? ⟨b 2, 1, none⟩ = some (.int .i64 (Ivl.comb Ivl.times al ah bl bh).2) := (hcl 2 (by omega) 1 (by decide)).1
    have k30 : w'.cell? ⟨b 3, 0, none⟩ = some (.int .i64 (Ivl.join al ah bl bh).1) := (hcl 3 (by omega) 0 (by decide)).1
    have k31 : w'.cell? ⟨b 3, 1, none⟩ = some (.int .i64 (Ivl.join al ah bl bh).2) := (hcl 3 (by omega) 1 (by decide)).1
    have hbw : Below w.heap.size w w' := hb.trans (hbl.mono hb.size)
    obtain ⟨P, HP⟩ : ∃ P, Hid (P = Ivl.comb Ivl.plus al ah bl bh) := ⟨_, Lib.hid rfl⟩
    obtain ⟨M, HM⟩ : ∃ P, Hid (P = Ivl.comb Ivl.minus al ah bl bh) := ⟨_, Lib.hid rfl⟩
    obtain ⟨T, HT⟩ : ∃ P, Hid (P = Ivl.comb Ivl.times al ah bl bh) := ⟨_, Lib.hid rfl⟩
    obtain ⟨J, HJ⟩ : ∃ P, Hid (P = Ivl.join al ah bl bh) := ⟨_, Lib.hid rfl⟩
    have va := Ivl.valid_iff.1 ha
    have vb := Ivl.valid_iff.1 hbb
    have ix := Ivl.in_iff.1 hx
    have iy := Ivl.in_iff.1 hy
    have vp : Ivl.validB P.1 P.2 = true := by rw [HP.out]; exact Ivl.comb_valid Ivl.satd_plus ha hbb
    have vm : Ivl.validB M.1 M.2 = true := by rw [HM.out]; exact Ivl.comb_valid Ivl.satd_minus ha hbb
    have vt : Ivl.validB T.1 T.2 = true := by rw [HT.out]; exact Ivl.comb_valid Ivl.satd_times ha hbb
    have vj : Ivl.validB J.1 J.2 = true := by rw [HJ.out]; exact Ivl.join_valid ha hbb
    have ip : Ivl.inB P.1 P.2 (Ivl.sat (x + y)) = true := by rw [HP.out]; exact Ivl.in_iff.2 (Ivl.comb_in Ivl.incl_plus ha hbb ix.1 ix.2 iy.1 iy.2)
    have im : Ivl.inB M.1 M.2 (Ivl.sat (x - y)) = true := by rw [HM.out]; exact Ivl.in_iff.2 (Ivl.comb_in Ivl.incl_minus ha hbb ix.1 ix.2 iy.1 iy.2)
    have it : Ivl.inB T.1 T.2 (Ivl.times x y) = true := by rw [HT.out]; exact Ivl.in_iff.2 (Ivl.comb_in Ivl.incl_times ha hbb ix.1 ix.2 iy.1 iy.2)
    have hj := Ivl.join_cases ha hbb
    have ijx : Ivl.inB J.1 J.2 x = true := by rw [HJ.out]; exact Ivl.in_iff.2 (by omega)
    have ijy : Ivl.inB J.1 J.2 y = true := by rw [HJ.out]; exact Ivl.in_iff.2 (by omega)
    have sp : IntKind.i64.wrap (x + y) = x + y := by rw [IntKind.wrap_i64]; omega
    have sm : IntKind.i64.wrap (x - y) = x - y := by rw [IntKind.wrap_i64]; omega
    have bx : -1000000000000 ≤ x ∧ x ≤ 1000000000000 := by omega
    have bY : -1000000000000 ≤ y ∧ y ≤ 1000000000000 := by omega
    rw [← HP.out] at k00 k01
    rw [← HM.out] at k10 k11
    rw [← HT.out] at k20 k21
    rw [← HJ.out] at k30 k31
    clear hcl hlo hhi hoth hbl hb f1 f2 f3 f4 va vb ix iy hj hx hy ha hbb
    simp only [ptrs, dstOf]
    go_wp2_with fail
    refine (valid_any _ _ _).mono ?_
    rintro e u1 ⟨rfl, hb⟩
    obtain ⟨hc, hd⟩ := bcell hb
    go_wp2_with fail
    refine (valid_any _ _ _).mono ?_
    rintro e v8 ⟨rfl, h⟩
    replace hb := hb.trans (h.mono hb.size)
    clear h hc hd
    obtain ⟨hc, hd⟩ := bcell hb
    go_wp2_with fail
    refine (valid_any _ _ _).mono ?_
    rintro e v9 ⟨rfl, h⟩
    replace hb := hb.trans (h.mono hb.size)
    clear h hc hd
    obtain ⟨hc, hd⟩ := bcell hb
    go_wp2_with fail
    refine (valid_any _ _ _).mono ?_
    rintro e v10 ⟨rfl, h⟩
    replace hb := hb.trans (h.mono hb.size)
    clear h hc hd
    obtain ⟨hc, hd⟩ := bcell hb
    go_wp2_with fail
    have ip' : Hid (Ivl.inB P.1 P.2 (Ivl.sat (x + y)) = true) := Lib.hid ip
    have im' : Hid (Ivl.inB M.1 M.2 (Ivl.sat (x - y)) = true) := Lib.hid im
    have it' : Hid (Ivl.inB T.1 T.2 (Ivl.times x y) = true) := Lib.hid it
    have ijx' : Hid (Ivl.inB J.1 J.2 x = true) := Lib.hid ijx
    have ijy' : Hid (Ivl.inB J.1 J.2 y = true) := Lib.hid ijy
    clear ip im it ijx ijy
    have zz := hb.size
    have q00 : ∀ X : Grown v10, X.w.cell? ⟨b 0, 0, none⟩ = some (.int .i64 P.1) := fun X => by rw [X.cell (by omega), hc _ _ l0, k00]
    have q01 : ∀ X : Grown v10, X.w.cell? ⟨b 0, 1, none⟩ = some (.int .i64 P.2) := fun X => by rw [X.cell (by omega), hc _ _ l0, k01]
    have q10 : ∀ X : Grown v10, X.w.cell? ⟨b 1, 0, none⟩ = some (.int .i64 M.1) := fun X => by rw [X.cell (by omega), hc _ _ l1, k10]
    have q11 : ∀ X : Grown v10, X.w.cell? ⟨b 1, 1, none⟩ = some (.int .i64 M.2) := fun X => by rw [X.cell (by omega), hc _ _ l1, k11]
    have q20 : ∀ X : Grown v10, X.w.cell? ⟨b 2, 0, none⟩ = some (.int .i64 T.1) := fun X => by rw [X.cell (by omega), hc _ _ l2, k20]
    have q21 : ∀ X : Grown v10, X.w.cell? ⟨b 2, 1, none⟩ = some (.int .i64 T.2) := fun X => by rw [X.cell (by omega), hc _ _ l2, k21]
    have q30 : ∀ X : Grown v10, X.w.cell? ⟨b 3, 0, none⟩ = some (.int .i64 J.1) := fun X => by rw [X.cell (by omega), hc _ _ l3, k30]
    have q31 : ∀ X : Grown v10, X.w.cell? ⟨b 3, 1, none⟩ = some (.int .i64 J.2) := fun X => by rw [X.cell (by omega), hc _ _ l3, k31]
    refine wp_region_grown (by kernel_rfl) (by kernel_rfl) ?_
    repeat (go_big_quiet_step (first
      | (go_at_call 25; with_reducible exact grown_of_same (refSat_any _ _))
      | (go_at_call 26; with_reducible exact grown_of_same (refTimes_any _ _ bx bY _))
      | (go_at_call 24; with_reducible exact grown_of (in_true ip'.out _))
      | (go_at_call 24; with_reducible exact grown_of (in_true im'.out _))
      | (go_at_call 24; with_reducible exact grown_of (in_true it'.out _))
      | (go_at_call 24; with_reducible exact grown_of (in_true ijx'.out _))
      | (go_at_call 24; with_reducible exact grown_of (in_true ijy'.out _))))
    refine wpQuiet_nil ?_
    rintro _ ⟨X, rfl⟩
    go_wp2
    go_ret
    exact ⟨rfl, (hbw.trans (hb.mono hbw.size)).trans (X.below.mono (Nat.le_trans hbw.size hb.size))⟩

theorem lawElem_any (al ah bl bh x y : Int) (w : World) :
    Calls Try.prog 4 #[.agg #[.int .i64 al, .int .i64 ah], .agg #[.int .i64 bl, .int .i64 bh], .int .i64 x, .int .i64 y] w fun e w' => e = .returned (.bool true) ∧ Below w.heap.size w w' := by
  cases ha : Ivl.validB al ah
  · exact lawElem_skip al ah bl bh x y (Or.inl ha) w
  · cases hb : Ivl.validB bl bh
    · exact lawElem_skip al ah bl bh x y (Or.inr (Or.inl ⟨ha, hb⟩)) w
    · cases hx : Ivl.inB al ah x
      · exact lawElem_skip al ah bl bh x y (Or.inr (Or.inr (Or.inl ⟨ha, hb, hx⟩))) w
      · cases hy : Ivl.inB bl bh y
        · exact lawElem_skip al ah bl bh x y (Or.inr (Or.inr (Or.inr ⟨ha, hb, hx, hy⟩))) w
        · exact lawElem_main al ah bl bh x y ha hb hx hy w

end Go.Proofs.Ythnipdcdiffioaa
