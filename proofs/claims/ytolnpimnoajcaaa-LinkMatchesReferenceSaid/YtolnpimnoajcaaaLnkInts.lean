/- The reference's Ints and Same: equality of lists of indices, and of lists of them. -/
import Derived.Test.YtolnpimnoajcaaaLnkColl
namespace Go.Proofs.Ytolnpimnoajcaaa
open Go.RowKit
open Lnk

def IsN (W : World) (v : Value) (l : List Nat) : Prop := ∃ ao c, v = .slice ao l.length c ∧ ∀ j (h : j < l.length), ∃ b, ao = some ⟨b, 0, none⟩ ∧ b < W.heap.size ∧ W.cell? ⟨b, j, none⟩ = some (.int .i64 (l[j] : Nat))
def IsNN (W : World) (v : Value) (gs : List (List Nat)) : Prop := ∃ ao c, v = .slice ao gs.length c ∧ ∀ j (h : j < gs.length), ∃ b u, ao = some ⟨b, 0, none⟩ ∧ b < W.heap.size ∧ W.cell? ⟨b, j, none⟩ = some u ∧ IsN W u gs[j]
theorem IsN.below {W w : World} {v : Value} {l : List Nat} (h : IsN W v l) (hb : Below W.heap.size W w) : IsN w v l := by
  obtain ⟨ao, c, e, h1⟩ := h
  exact ⟨ao, c, e, fun j hj => by obtain ⟨b, h2, h3, h4⟩ := h1 j hj; exact ⟨b, h2, Nat.lt_of_lt_of_le h3 hb.size, (cellB hb h3).trans h4⟩⟩
theorem IsNN.below {W w : World} {v : Value} {gs : List (List Nat)} (h : IsNN W v gs) (hb : Below W.heap.size W w) : IsNN w v gs := by
  obtain ⟨ao, c, e, h1⟩ := h
  exact ⟨ao, c, e, fun j hj => by obtain ⟨b, u, h2, h3, h4, h5⟩ := h1 j hj; exact ⟨b, u, h2, Nat.lt_of_lt_of_le h3 hb.size, (cellB hb h3).trans h4, h5.below hb⟩⟩
theorem IsN.owns {B : Nat} {W : World} {v : Value} {l : List Nat} (h : W.ownsRow B 3 1 v l.length (natC l)) : IsN W v l := by
  obtain ⟨ao, c, rfl⟩ := owns_shapeM h
  refine ⟨ao, c, rfl, fun j hj => ?_⟩
  obtain ⟨g, cp, e, _, ⟨cur, hw⟩, hc⟩ := owns_whole_put h hj
  injection e with e _ _
  refine ⟨g, e, hw.lt, hc j _ ?_⟩
  unfold natC
  rw [List.getElem?_map, List.getElem?_eq_getElem hj]
  rfl
theorem IsNN.sets {B : Nat} {W : World} {v : Value} {gs : List (List Nat)} (h : Sets B W v gs) : IsNN W v gs := by
  obtain ⟨vs, h1, h2, _⟩ := h.ex
  obtain ⟨ao, c, rfl⟩ := owns_shapeM h1
  refine ⟨ao, c, rfl, fun j hj => ?_⟩
  obtain ⟨g, cp, e, _, ⟨cur, hw⟩, hc⟩ := owns_whole_put h1 hj
  obtain ⟨u, h3, h4⟩ := h2 j hj
  injection e with e _ _
  exact ⟨g, u, e, hw.lt, hc j u h3, .owns h4⟩
theorem take_eq_next {α : Type} [DecidableEq α] {l m : List α} {k : Nat} (h : l.take k = m.take k) (hl : k < l.length) (hm : k < m.length) (e : l[k] = m[k]) : l.take (k + 1) = m.take (k + 1) := by
  rw [← List.take_append_getElem hl, ← List.take_append_getElem hm, h, e]

set_option maxRecDepth 100000 in
set_option maxHeartbeats 4000000 in
theorem ints_any (l m : List Nat) (hl : l.length ≤ 1000000) (hm : m.length ≤ 1000000) (W : World) (va vb : Value) (ha : IsN W va l) (hb : IsN W vb m) :
    Calls Try.prog 15 #[va, vb] W fun e w' => e = .returned (.bool (decide (l = m))) ∧ Below W.heap.size W w' := by
  obtain ⟨ao, ac, rfl, ha⟩ := ha
  obtain ⟨bo, bc, rfl, hb⟩ := hb
  have HA := Lib.hid ha
  have HB := Lib.hid hb
  clear ha hb
  obtain ⟨R, HR0⟩ : ∃ b, Hid (b = decide (l = m)) := ⟨_, Lib.hid rfl⟩
  obtain ⟨n, Hn⟩ : ∃ n, Hid (n = l.length) := ⟨_, Lib.hid rfl⟩
  obtain ⟨q, Hq⟩ : ∃ n, Hid (n = m.length) := ⟨_, Lib.hid rfl⟩
  rw [← HR0.out, ← Hn.out, ← Hq.out]
  rw [← Hn.out] at hl
  rw [← Hq.out] at hm
  go_enter Try.func15, Try.ntmps15
  by_cases hnq : n = q
  case neg =>
    have h1 : ((n : Int) == q) = false := by simp; omega
    have h2 : ((n : Int) != q) = true := by simp; omega
    have HRf : Hid (R = false) := Lib.hid (by rw [HR0.out]; exact decide_eq_false (fun e => hnq (by rw [Hn.out, Hq.out, e])))
    obtain rfl := HRf.out
    go_wp2_with fail
    go_ret
    exact ⟨rfl, Below.refl _ _⟩
  case pos =>
  subst hnq
  have h1 : ((n : Int) == (n : Int)) = true := by simp
  have h2 : ((n : Int) != (n : Int)) = false := by simp
  go_wp2_with fail
  clear h1 h2
  go_loopw [5] (fun i wr => ∃ k : Nat, k ≤ n ∧ i = .int .i64 k ∧ Hid (Below W.heap.size W wr ∧ l.take k = m.take k)) (fun i _ => n - (intOf i).toNat)
  case atStart => exact ⟨0, Nat.zero_le _, by go_num, Lib.hid ⟨Below.refl _ _, by simp⟩⟩
  case round =>
    obtain ⟨k, hk, rfl, HR⟩ := hrel
    by_cases hkn : k < n
    · have hd : decide ((k : Int) < n) = true := decide_eq_true (by omega)
      have hb0 : (0 : Int) ≤ k := by omega
      have hb1 : (k : Int) < n := by omega
      have hkl : k < l.length := by rw [← Hn.out]; exact hkn
      have hkm : k < m.length := by rw [← Hq.out]; exact hkn
      obtain ⟨ba, rfl, hba, ca⟩ := HA.out k hkl
      obtain ⟨bb, rfl, hbb, cb⟩ := HB.out k hkm
      obtain ⟨x, Hx⟩ : ∃ x, Hid (x = l[k]) := ⟨_, Lib.hid rfl⟩
      obtain ⟨y, Hy⟩ : ∃ x, Hid (x = m[k]) := ⟨_, Lib.hid rfl⟩
      rw [← Hx.out] at ca
      rw [← Hy.out] at cb
      have ga : ∀ Z : Grown wr, Z.w.cell? ⟨ba, k, none⟩ = some (.int .i64 x) := fun Z => (cellB (below_step HR.out.1 Z.below) hba).trans ca
      have gb : ∀ Z : Grown wr, Z.w.cell? ⟨bb, k, none⟩ = some (.int .i64 y) := fun Z => (cellB (below_step HR.out.1 Z.below) hbb).trans cb
      clear ca cb
      by_cases hxy : x = y
      · subst hxy
        have h1 : ((x : Int) == (x : Int)) = true := by simp
        have h2 : ((x : Int) != (x : Int)) = false := by simp
        have HNx : Hid (l.take (k + 1) = m.take (k + 1)) := Lib.hid (take_eq_next HR.out.2 hkl hkm (by rw [← Hx.out, ← Hy.out]))
        go_wp2_with fail
        refine wp_region_grown (by kernel_rfl) (by kernel_rfl) ?_
        repeat (go_big_quiet_step (fail))
        refine wpQuiet_nil ?_
        rintro _ ⟨Z, rfl⟩
        have HBZ := Lib.hid (below_step HR.out.1 Z.below)
        go_wp2_with fail
        go_round
        case rel => exact ⟨k + 1, by omega, by go_num, Lib.hid ⟨HBZ.out, HNx.out⟩⟩
        case measure => simp [intOf]; omega
      · have h1 : ((x : Int) == (y : Int)) = false := by simp; omega
        have h2 : ((x : Int) != (y : Int)) = true := by simp; omega
        have HRf : Hid (R = false) := Lib.hid (by rw [HR0.out]; exact decide_eq_false (fun e => hxy (by rw [Hx.out, Hy.out]; simp only [e])))
        obtain rfl := HRf.out
        go_wp2_with fail
        refine wp_region_grown (by kernel_rfl) (by kernel_rfl) ?_
        repeat (go_big_quiet_step (fail))
        refine wpQuiet_nil ?_
        rintro _ ⟨Z, rfl⟩
        have HBZ := Lib.hid (below_step HR.out.1 Z.below)
        go_wp2_with fail
        go_ret
        exact ⟨rfl, HBZ.out⟩
    · obtain rfl : k = n := by omega
      have hd : decide ((k : Int) < k) = false := decide_eq_false (by omega)
      have HRt : Hid (R = true) := Lib.hid (by
        rw [HR0.out]
        have := HR.out.2
        rw [Hn.out, List.take_length, ← Hn.out, Hq.out, List.take_length] at this
        exact decide_eq_true this)
      obtain rfl := HRt.out
      go_wp2_with fail
      go_ret
      exact ⟨rfl, HR.out.1⟩

set_option maxRecDepth 100000 in
set_option maxHeartbeats 4000000 in
theorem same_any (l m : List (List Nat)) (hl : l.length ≤ 1000000) (hm : m.length ≤ 1000000) (hl2 : ∀ g ∈ l, g.length ≤ 1000000) (hm2 : ∀ g ∈ m, g.length ≤ 1000000) (W : World) (va vb : Value) (ha : IsNN W va l) (hb : IsNN W vb m) :
    Calls Try.prog 12 #[va, vb] W fun e w' => e = .returned (.bool (decide (l = m))) ∧ Below W.heap.size W w' := by
  obtain ⟨ao, ac, rfl, ha⟩ := ha
  obtain ⟨bo, bc, rfl, hb⟩ := hb
  have HA := Lib.hid ha
  have HB := Lib.hid hb
  have HI := Lib.hid (fun (g h : List Nat) (h1 : g.length ≤ 1000000) (h2 : h.length ≤ 1000000) (w : World) (u v : Value) (h3 : IsN w u g) (h4 : IsN w v h) => ints_any g h h1 h2 w u v h3 h4)
  have HL2 := Lib.hid hl2
  have HM2 := Lib.hid hm2
  clear ha hb hl2 hm2
  obtain ⟨R, HR0⟩ : ∃ b, Hid (b = decide (l = m)) := ⟨_, Lib.hid rfl⟩
  obtain ⟨n, Hn⟩ : ∃ n, Hid (n = l.length) := ⟨_, Lib.hid rfl⟩
  obtain ⟨q, Hq⟩ : ∃ n, Hid (n = m.length) := ⟨_, Lib.hid rfl⟩
  rw [← HR0.out, ← Hn.out, ← Hq.out]
  rw [← Hn.out] at hl
  rw [← Hq.out] at hm
  go_enter Try.func12, Try.ntmps12
  by_cases hnq : n = q
  case neg =>
    have h1 : ((n : Int) == q) = false := by simp; omega
    have h2 : ((n : Int) != q) = true := by simp; omega
    have HRf : Hid (R = false) := Lib.hid (by rw [HR0.out]; exact decide_eq_false (fun e => hnq (by rw [Hn.out, Hq.out, e])))
    obtain rfl := HRf.out
    go_wp2_with fail
    go_ret
    exact ⟨rfl, Below.refl _ _⟩
  case pos =>
  subst hnq
  have h1 : ((n : Int) == (n : Int)) = true := by simp
  have h2 : ((n : Int) != (n : Int)) = false := by simp
  go_wp2_with fail
  clear h1 h2
  go_loopw [5] (fun i wr => ∃ k : Nat, k ≤ n ∧ i = .int .i64 k ∧ Hid (Below W.heap.size W wr ∧ l.take k = m.take k)) (fun i _ => n - (intOf i).toNat)
  case atStart => exact ⟨0, Nat.zero_le _, by go_num, Lib.hid ⟨Below.refl _ _, by simp⟩⟩
  case round =>
    obtain ⟨k, hk, rfl, HR⟩ := hrel
    by_cases hkn : k < n
    · have hd : decide ((k : Int) < n) = true := decide_eq_true (by omega)
      have hb0 : (0 : Int) ≤ k := by omega
      have hb1 : (k : Int) < n := by omega
      have hkl : k < l.length := by rw [← Hn.out]; exact hkn
      have hkm : k < m.length := by rw [← Hq.out]; exact hkn
      obtain ⟨ba, ua, rfl, hba, ca, na⟩ := HA.out k hkl
      obtain ⟨bb, ub, rfl, hbb, cb, nb⟩ := HB.out k hkm
      have ga : ∀ Z : Grown wr, Z.w.cell? ⟨ba, k, none⟩ = some ua := fun Z => (cellB (below_step HR.out.1 Z.below) hba).trans ca
      have gb : ∀ Z : Grown wr, Z.w.cell? ⟨bb, k, none⟩ = some ub := fun Z => (cellB (below_step HR.out.1 Z.below) hbb).trans cb
      obtain ⟨x, Hx⟩ : ∃ x, Hid (x = decide (l[k] = m[k])) := ⟨_, Lib.hid rfl⟩
      have HCl : Hid (∀ Z : Grown wr, Calls Try.prog 15 #[ua, ub] Z.w fun e w'' => e = .returned (.bool x) ∧ ∃ y : Grown wr, w'' = y.w) := Lib.hid (fun Z => by
        rw [Hx.out]
        exact grown_of (HI.out _ _ (HL2.out _ (List.getElem_mem hkl)) (HM2.out _ (List.getElem_mem hkm)) Z.w ua ub (na.below (below_step HR.out.1 Z.below)) (nb.below (below_step HR.out.1 Z.below))))
      obtain ⟨aa, ca1, rfl, -⟩ := na
      obtain ⟨ab, cb1, rfl, -⟩ := nb
      clear ca cb
      cases x with
      | true =>
        have HNx : Hid (l.take (k + 1) = m.take (k + 1)) := Lib.hid (take_eq_next HR.out.2 hkl hkm (of_decide_eq_true Hx.out.symm))
        go_wp2_with fail
        refine wp_region_grown (by kernel_rfl) (by kernel_rfl) ?_
        repeat (go_big_quiet_step (exact HCl.out _))
        refine wpQuiet_nil ?_
        rintro _ ⟨Z, rfl⟩
        have HBZ := Lib.hid (below_step HR.out.1 Z.below)
        go_wp2_with fail
        go_round
        case rel => exact ⟨k + 1, by omega, by go_num, Lib.hid ⟨HBZ.out, HNx.out⟩⟩
        case measure => simp [intOf]; omega
      | false =>
        have HRf : Hid (R = false) := Lib.hid (by rw [HR0.out]; exact decide_eq_false (fun e => by have := of_decide_eq_false Hx.out.symm; exact this (by simp only [e])))
        obtain rfl := HRf.out
        go_wp2_with fail
        refine wp_region_grown (by kernel_rfl) (by kernel_rfl) ?_
        repeat (go_big_quiet_step (exact HCl.out _))
        refine wpQuiet_nil ?_
        rintro _ ⟨Z, rfl⟩
        have HBZ := Lib.hid (below_step HR.out.1 Z.below)
        go_wp2_with fail
        go_ret
        exact ⟨rfl, HBZ.out⟩
    · obtain rfl : k = n := by omega
      have hd : decide ((k : Int) < k) = false := decide_eq_false (by omega)
      have HRt : Hid (R = true) := Lib.hid (by
        rw [HR0.out]
        have := HR.out.2
        rw [Hn.out, List.take_length, ← Hn.out, Hq.out, List.take_length] at this
        exact decide_eq_true this)
      obtain rfl := HRt.out
      go_wp2_with fail
      go_ret
      exact ⟨rfl, HR.out.1⟩
end Go.Proofs.Ytolnpimnoajcaaa
