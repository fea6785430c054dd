/- The plain mathematics of intervals: orders, and what changes nothing. Nothing of the program is imported. -/
import Derived.Test.YtijnnfioggjaeaaIvlMathB
namespace Go.Proofs.Ytijnnfioggjaeaa.Ivl

theorem pair_ext {a b : Int × Int} (h1 : a.1 = b.1) (h2 : a.2 = b.2) : a = b := Prod.ext h1 h2
theorem comb_bad {g : Int → Int → Int} {al ah bl bh : Int} (h : (validB al ah && validB bl bh) = false) : comb g al ah bl bh = (0, 0) := by
  unfold comb; rw [h]; rfl
theorem join_bad' {al ah bl bh : Int} (h : (validB al ah && validB bl bh) = false) : join al ah bl bh = (0, 0) := by
  unfold join; rw [h]; rfl
theorem comb_comm {g : Int → Int → Int} (hg : ∀ x y, g x y = g y x) (al ah bl bh : Int) : comb g bl bh al ah = comb g al ah bl bh := by
  cases ha : validB al ah <;> cases hb : validB bl bh
  · rw [comb_bad (by rw [ha, hb]; rfl), comb_bad (by rw [ha, hb]; rfl)]
  · rw [comb_bad (by rw [ha, hb]; rfl), comb_bad (by rw [ha, hb]; rfl)]
  · rw [comb_bad (by rw [ha, hb]; rfl), comb_bad (by rw [ha, hb]; rfl)]
  · rw [comb_of hb ha, comb_of ha hb, hg bl al, hg bl ah, hg bh al, hg bh ah]
    have a1 := low3 (g al bl) (g ah bl) (g al bh) (g ah bh)
    have a2 := low3 (g al bl) (g al bh) (g ah bl) (g ah bh)
    have b1 := high3 (g al bl) (g ah bl) (g al bh) (g ah bh)
    have b2 := high3 (g al bl) (g al bh) (g ah bl) (g ah bh)
    exact pair_ext (by dsimp only; omega) (by dsimp only; omega)
theorem plus_comm (x y : Int) : plus x y = plus y x := by unfold plus; rw [Int.add_comm]
theorem times_comm (x y : Int) : times x y = times y x := by unfold times; rw [Int.mul_comm]
theorem join_comm (al ah bl bh : Int) : join bl bh al ah = join al ah bl bh := by
  cases ha : validB al ah <;> cases hb : validB bl bh
  · rw [join_bad' (by rw [ha, hb]; rfl), join_bad' (by rw [ha, hb]; rfl)]
  · rw [join_bad' (by rw [ha, hb]; rfl), join_bad' (by rw [ha, hb]; rfl)]
  · rw [join_bad' (by rw [ha, hb]; rfl), join_bad' (by rw [ha, hb]; rfl)]
  · have a := join_cases hb ha
    have b := join_cases ha hb
    exact pair_ext (by omega) (by omega)
theorem join_assoc {al ah bl bh cl ch : Int} (ha : validB al ah = true) (hb : validB bl bh = true) (hc : validB cl ch = true) :
    join (join al ah bl bh).1 (join al ah bl bh).2 cl ch = join al ah (join bl bh cl ch).1 (join bl bh cl ch).2 := by
  have a := join_cases ha hb
  have b := join_cases hb hc
  have c := join_cases (join_valid ha hb) hc
  have d := join_cases ha (join_valid hb hc)
  exact pair_ext (by omega) (by omega)
theorem join_self {al ah : Int} (ha : validB al ah = true) : join al ah al ah = (al, ah) := by
  have a := join_cases ha ha
  exact pair_ext (by dsimp only; omega) (by dsimp only; omega)
theorem comb_id {g : Int → Int → Int} {al ah z : Int} (ha : validB al ah = true) (hz : validB z z = true) (hg : ∀ x, -1000000000000 ≤ x → x ≤ 1000000000000 → g x z = x) : comb g al ah z z = (al, ah) := by
  have va := valid_iff.1 ha
  rw [comb_of ha hz, hg al (by omega) (by omega), hg ah (by omega) (by omega)]
  have a := low3 al al ah ah
  have b := high3 al al ah ah
  exact pair_ext (by dsimp only; omega) (by dsimp only; omega)
theorem plus_zero {al ah : Int} (ha : validB al ah = true) : comb plus al ah 0 0 = (al, ah) :=
  comb_id ha (by decide) fun x h1 h2 => by unfold plus; rw [Int.add_zero]; exact sat_id ⟨h1, h2⟩
theorem minus_zero {al ah : Int} (ha : validB al ah = true) : comb minus al ah 0 0 = (al, ah) :=
  comb_id ha (by decide) fun x h1 h2 => by unfold minus; rw [Int.sub_zero]; exact sat_id ⟨h1, h2⟩
theorem times_one {al ah : Int} (ha : validB al ah = true) : comb times al ah 1 1 = (al, ah) :=
  comb_id ha (by decide) fun x h1 h2 => by unfold times; rw [Int.mul_one]; exact sat_id ⟨h1, h2⟩

end Go.Proofs.Ytijnnfioggjaeaa.Ivl
