/- The library's insertion of parts: the walk. -/
import Derived.Test.YtijnnfioggjaeaaDoorMonSort
import Derived.Maps.AppendAt
import Derived.Deep.RegionLaw
namespace Go.Proofs.YtijnnfioggjaeaaDoor
open Go.RowKit

theorem Parts.grown {W : World} {g : Nat} {l : List Mon.Part} (h : Parts W g l) {k : Nat} (hk : k < l.length) :
    (∀ X : Grown W, X.w.cell? ⟨g, k * 3, none⟩ = some (.int .i64 l[k].i)) ∧ (∀ X : Grown W, X.w.cell? ⟨g, k * 3 + 1, none⟩ = some (.int .i64 l[k].q)) ∧ (∀ X : Grown W, X.w.cell? ⟨g, k * 3 + 2, none⟩ = some (.int .u64 l[k].r)) := by
  obtain ⟨⟨h1, h2, h3⟩, _⟩ := h k hk
  have hlt := lt_of_cell h1
  exact ⟨fun X => (X.cell hlt).trans h1, fun X => (X.cell hlt).trans h2, fun X => (X.cell hlt).trans h3⟩

theorem Parts.inW {W : World} {g : Nat} {l : List Mon.Part} (h : Parts W g l) (X : Grown W) {k : Nat} (hk : k < l.length) :
    (X.w.cell? ⟨g, k * 3, none⟩ = some (.int .i64 l[k].i) ∧ X.w.cell? ⟨g, k * 3 + 1, none⟩ = some (.int .i64 l[k].q) ∧ X.w.cell? ⟨g, k * 3 + 2, none⟩ = some (.int .u64 l[k].r)) ∧
    (X.w.frozen? ⟨g, k * 3, none⟩ = false ∧ X.w.frozen? ⟨g, k * 3 + 1, none⟩ = false ∧ X.w.frozen? ⟨g, k * 3 + 2, none⟩ = false) := by
  obtain ⟨⟨h1, h2, h3⟩, h4, h5, h6⟩ := h k hk
  have hlt := lt_of_cell h1
  exact ⟨⟨(X.cell hlt).trans h1, (X.cell hlt).trans h2, (X.cell hlt).trans h3⟩, (X.frozen hlt).trans h4, (X.frozen hlt).trans h5, (X.frozen hlt).trans h6⟩

theorem grown_set (w : World) (g o : Nat) (v : Value) : w.grownBy (w.setCell ⟨g, o, none⟩ v) (some g) :=
  ⟨rfl, rfl, rfl, by simp, fun k _ hk => Below.heap_setCell w ⟨g, o, none⟩ v k (fun e => hk (by rw [e]))⟩
theorem grown_below {w w' : World} (h : Below w.heap.size w w') (row : Option Nat) : w.grownBy w' row := ⟨h.os, h.tape, h.output, h.size, fun k hk _ => h.block k hk⟩
theorem grown_draw (w : World) (row : Option Nat) : w.grownBy w.drew row := ⟨rfl, rfl, rfl, Nat.le_refl _, fun _ _ _ => rfl⟩
/-- A part is stored. -/
def setP (V : World) (g k : Nat) (p : Mon.Part) : World :=
  ((V.setCell ⟨g, k * 3, none⟩ (.int .i64 p.i)).setCell ⟨g, k * 3 + 1, none⟩ (.int .i64 p.q)).setCell ⟨g, k * 3 + 2, none⟩ (.int .u64 p.r)
theorem grown_setP (V : World) (g k : Nat) (p : Mon.Part) : V.grownBy (setP V g k p) (some g) :=
  ((grown_set V g _ _).trans (grown_set _ g _ _)).trans (grown_set _ g _ _)
theorem frozen_setP (V : World) (g k : Nat) (p : Mon.Part) (a : Addr) : (setP V g k p).frozen? a = V.frozen? a := by
  unfold setP; rw [World.frozen?_setCell, World.frozen?_setCell, World.frozen?_setCell]
theorem Parts.setP {V : World} {g : Nat} {l : List Mon.Part} (h : Parts V g l) {k : Nat} (hk : k < l.length) (p : Mon.Part) : Parts (setP V g k p) g (l.set k p) := by
  intro j hj
  have hj' : j < l.length := by simpa using hj
  obtain ⟨⟨h1, h2, h3⟩, h4, h5, h6⟩ := h j hj'
  rw [frozen_setP, frozen_setP, frozen_setP]
  refine ⟨?_, h4, h5, h6⟩
  rw [List.getElem_set]
  by_cases hjk : k = j
  · subst hjk
    rw [if_pos rfl]
    have e2 : (V.setCell ⟨g, k * 3, none⟩ (.int .i64 p.i)).cell? ⟨g, k * 3 + 1, none⟩ = some (.int .i64 l[k].q) := by rw [World.cell?_setCell_other _ _ _ _ (by simp), h2]
    have e3 : ((V.setCell ⟨g, k * 3, none⟩ (.int .i64 p.i)).setCell ⟨g, k * 3 + 1, none⟩ (.int .i64 p.q)).cell? ⟨g, k * 3 + 2, none⟩ = some (.int .u64 l[k].r) := by rw [World.cell?_setCell_other _ _ _ _ (by simp), World.cell?_setCell_other _ _ _ _ (by simp), h3]
    unfold _root_.Go.Proofs.YtijnnfioggjaeaaDoor.setP
    refine ⟨?_, ?_, ?_⟩
    · rw [World.cell?_setCell_other _ _ _ _ (by simp), World.cell?_setCell_other _ _ _ _ (by simp), World.cell?_setCell_same _ _ _ h1]
    · rw [World.cell?_setCell_other _ _ _ _ (by simp), World.cell?_setCell_same _ _ _ e2]
    · rw [World.cell?_setCell_same _ _ _ e3]
  · rw [if_neg hjk]
    unfold _root_.Go.Proofs.YtijnnfioggjaeaaDoor.setP
    refine ⟨?_, ?_, ?_⟩ <;>
      rw [World.cell?_setCell_other _ _ _ _ (by intro h; injection h; omega), World.cell?_setCell_other _ _ _ _ (by intro h; injection h; omega), World.cell?_setCell_other _ _ _ _ (by intro h; injection h; omega)] <;> assumption
theorem Parts.drew {V : World} {g : Nat} {l : List Mon.Part} (h : Parts V g l) : Parts V.drew g l := h
theorem swap_set {P R : List Mon.Part} {y x : Mon.Part} {m : Nat} (h : P.length = m) : ((P ++ y :: x :: R).set (m + 1) y).set m x = P ++ x :: y :: R := by
  subst h
  rw [List.set_append_right _ _ (by omega), show P.length + 1 - P.length = 1 by omega, List.set_append_right _ _ (by omega), Nat.sub_self]
  rfl
theorem outer_step {l S A B : List Mon.Part} {x : Mon.Part} {k : Nat} (hk : k < l.length) (hx : x = l[k]) (hS : S.Perm (l.take k)) (hs : S.Pairwise Mon.ord) (hAB : A ++ B = S) (hB : ∀ y ∈ B, y.r < x.r)
    (hA : ∀ y, A.getLast? = some y → ¬ y.r < x.r) (hidx : l.Pairwise fun p s => p.i < s.i) : (A ++ x :: B).Perm (l.take (k + 1)) ∧ (A ++ x :: B).Pairwise Mon.ord := by
  subst hAB
  constructor
  · rw [List.take_succ_eq_append_getElem hk, ← hx]
    exact (List.perm_middle.trans (List.Perm.cons x hS)).trans (List.perm_append_singleton x _).symm
  · refine Mon.insert_sorted hs hB hA fun y hy => ?_
    have h1 : y ∈ l.take k := hS.subset (List.mem_append_left _ hy)
    obtain ⟨j, hj, rfl⟩ := List.getElem_of_mem h1
    have hjk : j < k := by rw [List.length_take] at hj; omega
    rw [List.getElem_take, hx]
    exact List.pairwise_iff_getElem.1 hidx j k (by omega) hk hjk

set_option maxRecDepth 100000 in
set_option maxHeartbeats 8000000 in
theorem ins_any (l : List Mon.Part) (n : Nat) (hn : n = l.length) (hn1 : 1 ≤ n) (hn2 : n ≤ 16) (hidx : l.Pairwise fun p s => p.i < s.i) (g cap b : Nat) (w : World) (hp : Parts w g l) (hgb : b ≠ g) (hg : g < w.heap.size)
    (hb : w.cell? ⟨b, 0, none⟩ = some (.func (.func 20) #[] #[])) :
    Calls Tryd.prog 31 #[.slice (some ⟨g, 0, none⟩) n cap, .int .i64 0, .int .i64 n, .func (.func 27) #[] #[.pointer (some ⟨b, 0, none⟩)]] w
      fun e w' => (∃ v, e = .returned v) ∧ w.grownBy w' (some g) ∧ ∃ L : List Mon.Part, L.Perm l ∧ L.Pairwise Mon.ord ∧ Parts w' g L := by
  have Hn := Lib.hid hn
  clear hn
  have HP := Lib.hid hp
  have HI := Lib.hid hidx
  clear hp hidx
  go_enter Tryd.func31, Tryd.ntmps31
  go_wp2
  go_loopw [8] (fun i wr => ∃ k : Nat, 1 ≤ k ∧ k ≤ n ∧ i = .int .i64 k ∧ w.grownBy wr (some g) ∧ Hid (∃ S : List Mon.Part, S.Perm (l.take k) ∧ S.Pairwise Mon.ord ∧ Parts wr g (S ++ l.drop k))) (fun i _ => n - (intOf i).toNat)
  case atStart =>
    refine ⟨1, by omega, hn1, by go_num, World.grownBy.refl _ _, Lib.hid ⟨l.take 1, List.Perm.refl _, ?_, ?_⟩⟩
    · rcases l with _ | ⟨a, l⟩ <;> simp
    · rw [List.take_append_drop]; exact HP.out
  case round =>
    obtain ⟨k, hk0, hk, rfl, hgr, HS⟩ := hrel
    by_cases hlt : k < n
    · obtain ⟨S, HSp⟩ : ∃ S : List Mon.Part, Hid (S.Perm (l.take k) ∧ S.Pairwise Mon.ord ∧ Parts wr g (S ++ l.drop k)) := by
        obtain ⟨S, h⟩ := HS.out; exact ⟨S, Lib.hid h⟩
      have hkl : k < l.length := by rw [← Hn.out]; exact hlt
      obtain ⟨x, Hx⟩ : ∃ x, Hid (x = l[k]) := ⟨_, Lib.hid rfl⟩
      obtain ⟨wo, rfl⟩ : ∃ wo, wo = wr := ⟨_, rfl⟩
      go_wp2
      go_loopw [9] (fun j ws => ∃ (m : Nat), m ≤ k ∧ j = .int .i64 m ∧ wo.grownBy ws (some g) ∧ Hid (∃ A B : List Mon.Part, A.length = m ∧ A ++ B = S ∧ (∀ y ∈ B, y.r < x.r) ∧ Parts ws g (A ++ x :: B ++ l.drop (k + 1)))) (fun j _ => (intOf j).toNat)
      case atStart =>
        have hl : S.length = k := by rw [HSp.out.1.length_eq, List.length_take]; omega
        refine ⟨k, Nat.le_refl _, rfl, World.grownBy.refl _ _, Lib.hid ⟨S, [], hl, List.append_nil _, by simp, ?_⟩⟩
        have e : S ++ x :: [] ++ l.drop (k + 1) = S ++ l.drop k := by rw [List.drop_eq_getElem_cons hkl, Hx.out]; simp
        rw [e]; exact HSp.out.2.2
      case round =>
        obtain ⟨m, hm, rfl, hgs, HAB⟩ := hrel
        obtain ⟨A, B, HA⟩ : ∃ A B : List Mon.Part, Hid (A.length = m ∧ A ++ B = S ∧ (∀ y ∈ B, y.r < x.r) ∧ Parts wr g (A ++ x :: B ++ l.drop (k + 1))) := by
          obtain ⟨A, B, h⟩ := HAB.out; exact ⟨A, B, Lib.hid h⟩
        have hbw : wr.cell? ⟨b, 0, none⟩ = some (.func (.func 20) #[] #[]) := (hgr.trans hgs).cell hb (by simp [hgb])
        cases m with
        | zero =>
          go_wp2
          refine wp_region_grown (by kernel_rfl) (by kernel_rfl) ?_
          repeat (go_big_quiet_step (fail))
          refine wpQuiet_nil ?_
          rintro _ ⟨X, rfl⟩
          go_wp2
          go_roundw
          case rel =>
            obtain ⟨hA0, hAB, hBx, hPt⟩ := HA.out
            obtain rfl : A = [] := List.eq_nil_of_length_eq_zero hA0
            obtain ⟨o1, o2⟩ := outer_step hkl Hx.out HSp.out.1 HSp.out.2.1 hAB hBx (by simp) HI.out
            refine ⟨k + 1, by omega, by omega, by go_num, (hgr.trans hgs).trans (grown_below X.below _), Lib.hid ⟨_, o1, o2, ?_⟩⟩
            intro j hj
            exact hPt.inW X hj
          case measure => simp [intOf]; omega
        | succ m =>
          obtain ⟨A', y, HA'⟩ : ∃ A' y, Hid (A = A' ++ [y] ∧ A'.length = m) := by
            have hA0 := HA.out.1
            rcases List.eq_nil_or_concat A with h | ⟨A', y, h⟩
            · rw [h] at hA0; simp at hA0
            · rw [List.concat_eq_append] at h
              exact ⟨A', y, Lib.hid ⟨h, by rw [h] at hA0; simpa using hA0⟩⟩
          have HPt : Hid (Parts wr g (A' ++ y :: x :: (B ++ l.drop (k + 1)))) := Lib.hid (by
            have := HA.out.2.2.2
            rw [HA'.out.1] at this
            have e : A' ++ [y] ++ x :: B ++ l.drop (k + 1) = A' ++ y :: x :: (B ++ l.drop (k + 1)) := by simp
            rwa [e] at this)
          have hlen1 : m < (A' ++ y :: x :: (B ++ l.drop (k + 1))).length := by have := HA'.out.2; simp; omega
          have hlen2 : m + 1 < (A' ++ y :: x :: (B ++ l.drop (k + 1))).length := by have := HA'.out.2; simp; omega
          have E1 : Hid ((A' ++ y :: x :: (B ++ l.drop (k + 1)))[m] = y ∧ (A' ++ y :: x :: (B ++ l.drop (k + 1)))[m + 1] = x) := Lib.hid (by
            have h := HA'.out.2
            subst h
            constructor
            · rw [List.getElem_append_right (Nat.le_refl _)]; simp
            · rw [List.getElem_append_right (by omega)]; simp)
          have c1 := HPt.out.grown hlen1
          have c2 := HPt.out.grown hlen2
          rw [E1.out.1] at c1
          rw [E1.out.2] at c2
          obtain ⟨c11, c12, c13⟩ := c1
          obtain ⟨c21, c22, c23⟩ := c2
          have hbX : ∀ X : Grown wr, X.w.cell? ⟨b, 0, none⟩ = some (.func (.func 20) #[] #[]) := fun X => (X.cell (lt_of_cell hbw)).trans hbw
          have q1 : (0 : Int) < (m : Int) + 1 := by omega
          have q2 : (m : Int) + 1 < n := by omega
          have q3 : (m : Int) < n := by omega
          have q4 : ((m : Int) + 1).toNat = m + 1 := by omega
          have q5 : (0 : Int) ≤ (m : Int) := by omega
          have q6 : (0 : Int) ≤ (m : Int) + 1 := by omega
          have q7 : IntKind.i64.wrap (m : Int) = (m : Int) := by rw [IntKind.wrap_i64]; omega
          go_wp2
          refine wp_region_grown (by kernel_rfl) (by kernel_rfl) ?_
          repeat (go_big_quiet_step ((go_at_call 27; with_reducible exact grown_of (cmp_any x y b _ (hbX _)))))
          refine wpQuiet_nil ?_
          rintro _ ⟨X, rfl⟩
          by_cases hlt2 : y.r < x.r
          · have hcmp : cmpP x y < 0 := by unfold cmpP; rw [if_pos hlt2]; omega
            have c1 := HPt.out.inW X hlen1
            have c2 := HPt.out.inW X hlen2
            rw [E1.out.1] at c1
            rw [E1.out.2] at c2
            obtain ⟨⟨d11, d12, d13⟩, d14, d15, d16⟩ := c1
            obtain ⟨⟨d21, d22, d23⟩, d24, d25, d26⟩ := c2
            have HPV : Hid (Parts X.w g (A' ++ y :: x :: (B ++ l.drop (k + 1)))) := Lib.hid (fun j hj => HPt.out.inW X hj)
            have HGV : Hid (wo.grownBy X.w (some g)) := Lib.hid (hgs.trans (grown_below X.below _))
            obtain ⟨V, HV⟩ : ∃ V, Hid (V = X.w) := ⟨_, Lib.hid rfl⟩
            rw [← HV.out] at d11 d12 d13 d14 d15 d16 d21 d22 d23 d24 d25 d26 HPV HGV ⊢
            clear c11 c12 c13 c21 c22 c23 hbX
            go_wp2
            go_region
            clear d11 d12 d13 d14 d15 d16 d21 d22 d23 d24 d25 d26 q1 q2 q3 q4 q5 q6 q7
            go_wp2
            go_roundw
            case rel =>
              refine ⟨m, by omega, by go_num, (HGV.out.trans ((grown_setP V g (m + 1) y).trans (grown_setP _ g m x))).trans (grown_draw _ _), Lib.hid ⟨A', y :: B, HA'.out.2, ?_, ?_, ?_⟩⟩
              · have := HA.out.2.1; rw [HA'.out.1] at this; rw [← this]; simp
              · intro z hz
                rcases List.mem_cons.1 hz with rfl | hz
                · exact hlt2
                · exact HA.out.2.2.1 z hz
              · have h1 := (HPV.out.setP hlen2 y).setP (k := m) (by rw [List.length_set]; exact hlen1) x
                rw [swap_set HA'.out.2] at h1
                have e : A' ++ x :: (y :: B) ++ l.drop (k + 1) = A' ++ x :: y :: (B ++ l.drop (k + 1)) := by simp
                rw [e]
                exact h1.drew
            case measure => simp [intOf]
          · have hcmp : ¬ cmpP x y < 0 := by unfold cmpP; rw [if_neg hlt2]; split <;> omega
            clear c11 c12 c13 c21 c22 c23 hbX q1 q2 q3 q4 q5 q6 q7
            go_wp2
            go_roundw
            case rel =>
              obtain ⟨hA0, hAB, hBx, hPt⟩ := HA.out
              obtain ⟨o1, o2⟩ := outer_step hkl Hx.out HSp.out.1 HSp.out.2.1 hAB hBx (by rw [HA'.out.1]; intro z hz; simp at hz; rw [← hz]; exact hlt2) HI.out
              refine ⟨k + 1, by omega, by omega, by go_num, (hgr.trans hgs).trans (grown_below X.below _), Lib.hid ⟨_, o1, o2, ?_⟩⟩
              intro j hj
              exact hPt.inW X hj
            case measure => simp [intOf]; omega
    · obtain rfl : n = k := by omega
      go_wp2
      go_end0
      obtain ⟨S, h1, h2, h3⟩ := HS.out
      have e1 : l.drop n = [] := by rw [Hn.out]; exact List.drop_length
      have e2 : l.take n = l := by rw [Hn.out]; exact List.take_length
      rw [e1, List.append_nil] at h3
      rw [e2] at h1
      exact ⟨⟨_, rfl⟩, hgr, S, h1, h2, h3⟩

end Go.Proofs.YtijnnfioggjaeaaDoor
