/- The walk: the reference's order. -/
import Derived.Test.YtejgbfaampllaaaTskRefA
import Derived.Test.YtejgbfaampllaaaTskRefMath
namespace Go.Proofs.Ytejgbfaampllaaa
open Go.RowKit

/-- What holds while the reference looks for the order. -/
structure RInv (l : List Tk) (W : World) (n : Nat) (ord : List Nat) (vo : Option Addr) (m vc g : Nat) (w : World) : Prop where
  below : Below W.heap.size W w
  marks : Whole w g 4 (boolsC (Tsk.doneOf n ord))
  row : w.ownsRow W.heap.size 3 1 (.slice vo m vc) m (ordC ord)
  new : W.heap.size ≤ g
  len : m = ord.length
  way : Tsk.Way l ord
theorem isBools_whole {W : World} {g : Nat} {t : TypeId} (zs : List Bool) (h : Whole W g t (boolsC zs)) : IsBools W (some ⟨g, 0, none⟩) zs :=
  Or.inr ⟨g, 0, rfl, h.lt, fun k hk => by rw [Nat.zero_add, h.cell k, boolsC_get hk, Tsk.dn_get hk]⟩

set_option maxRecDepth 100000 in
set_option maxHeartbeats 4000000 in
theorem rorder_yes (l : List Tk) (hf : ∀ t ∈ l, tkFine t) (hv : Tsk.validB l = true) (ao : Option Addr) (cap : Nat) (W : World) (hl : IsTasks W ao l) :
    Calls Try.prog 12 #[.slice ao l.length cap] W (OrderPost l W) := by
  have h40 := (Tsk.validB_iff.1 hv).1
  obtain ⟨n, Hn⟩ : ∃ n, Hid (n = l.length) := ⟨_, Lib.hid rfl⟩
  have HV := Lib.hid (rvalid_any l hf (by omega) ao cap W hl)
  have HRd := Lib.hid fun (done : List Bool) (hd : done.length = n) bo capb W' (hb : IsBools W' bo done) (hl : IsTasks W' ao l) i (hi : i < n) => rready_any l hv n Hn.out done hd ao bo cap capb W' hl hb i hi
  rw [hv] at HV
  rw [← Hn.out] at HV h40 ⊢
  have HVB := Lib.hid hv
  have HL := Lib.hid hl
  have hn40 : (n : Int) ≤ 40 := by omega
  obtain ⟨i1, hi1, hy0, hy1, hy2⟩ := info_parts info_int
  obtain ⟨j1, hj1, hz0, hz1, hz2⟩ := info_parts info_bool
  clear hf hv hl
  go_enter Try.func12, Try.ntmps12
  go_wp2_with fail
  refine HV.out.mono ?_
  rintro e w1 ⟨rfl, hb⟩
  have hs1 := hb.size
  have HB1 := Lib.hid hb
  clear hb
  go_wp2_with (at_make; refine wpList_make_full _ rfl _ _ 23 rfl w1.heap.size 4 j1 (.bool false) 1 Try.underlying23 hj1 hz0 hz1 .i64 .i64 _ _ n rfl rfl rfl rfl (by rw [hz2]; omega) (by unfold maxLen; omega) (Nat.le_refl _) ?_; intro w2 hown hgr; have HO2 := Lib.hid hown; have HG2 := Lib.hid hgr; clear hown hgr)
  obtain ⟨g, Hg⟩ : ∃ x, Hid (x = w1.heap.size) := ⟨_, Lib.hid rfl⟩
  have HI0 : Hid (RInv l W n [] none 0 0 g w2) := Lib.hid (by
    have hb2 : Below w1.heap.size w1 w2 := ⟨HG2.out.os, HG2.out.tape, HG2.out.output, HG2.out.size, fun k hk => HG2.out.block k hk (by simp)⟩
    have ho := HO2.out
    have e1 : (madeCells (Value.bool false).cells (n * 1)).toList = List.replicate n (.bool false) := by rw [Nat.mul_one]; exact toList_madeCells_one _ _
    rw [e1] at ho
    have hw := whole_of_full ho (by simp)
    have e2 : (List.replicate n (Value.bool false)).toArray = boolsC (Tsk.doneOf n []) := by rw [Tsk.doneOf_nil]; simp [boolsC]
    rw [e2] at hw
    rw [Hg.out]
    exact ⟨below_step HB1.out hb2, hw, World.ownsRow_nil _ _ _ _, hs1, rfl, Tsk.Way.nil l⟩)
  rw [← Hg.out]
  clear hs1
  go_loopw [4] (fun v wr => ∃ ord vo m vc, v = .slice vo m vc ∧ Hid (RInv l W n ord vo m vc g wr)) (fun v _ => n - (match v with | .slice _ m _ => m | _ => 0))
  case atStart => exact ⟨[], none, 0, 0, rfl, HI0⟩
  case round =>
    obtain ⟨ord, vo, m, vc, rfl, HI⟩ := hrel
    have hmn0 : m ≤ n := by have := HI.out.way.1.len; have := HI.out.len; have := Hn.out; omega
    by_cases hlt : m < n
    · have hlt' : (m : Int) < n := by omega
      have hgl := HI.out.marks.lt
      have HRdw := Lib.hid fun i (hi : i < n) => HRd.out (Tsk.doneOf n ord) (Tsk.doneOf_len _ _) (some ⟨g, 0, none⟩) n wr (isBools_whole _ HI.out.marks) (HL.out.below HI.out.below) i hi
      have HRE : Hid (∀ i, i < n → Tsk.rdB l (Tsk.doneOf n ord) i = Tsk.readyB l ord i) := Lib.hid fun i hi => by
        rw [Hn.out]
        exact Tsk.rd_doneOf HVB.out (by rw [← Hn.out]; exact hi)
      go_wp2
      go_loop [6, 7] (fun nx v => ∃ k : Nat, k ≤ n ∧ ∃ u z : Int, v = .int .i64 u ∧ u = k - 1 ∧ nx = .int .i64 z ∧ Hid (Tsk.NextP l ord n k z)) (fun _ v => (intOf v + 1).toNat)
      case atStart => exact ⟨n, Nat.le_refl _, _, _, rfl, rfl, rfl, Lib.hid (Tsk.NextP.start l ord n)⟩
      case round =>
        obtain ⟨k, hk, u, z, rfl, hu, rfl, HN⟩ := hrel
        by_cases hk0 : k = 0
        · subst hk0
          have hu0 : ¬ (0 : Int) ≤ u := by omega
          clear hu
          have hnx := HN.out
          rw [Hn.out] at hnx
          rcases hnx.ends with ⟨hz, hnt⟩ | ⟨x, rfl, hxl, hnt⟩
          · have HP : Hid (OrderPost l W (.returned (.tuple #[.slice none 0 0, .int .i64 24])) wr) := Lib.hid (by
              have hend := HI.out.way.stop hnt
              have h1 : (Tsk.orderL l).length < l.length := by rw [← hend, ← HI.out.len, ← Hn.out]; exact hlt
              have h2 : Tsk.orderV l = [] := by unfold Tsk.orderV; rw [decide_eq_false (by omega)]; simp
              have h3 : Tsk.orderE l = 24 := by unfold Tsk.orderE; rw [if_pos HVB.out, if_pos h1]
              unfold OrderPost
              rw [h2, h3]
              exact ⟨none, 0, rfl, HI.out.below, Or.inl rfl⟩)
            have hz0 : z < 0 := by omega
            clear hnx hnt hz
            go_wp2
            go_ret2
            exact HP.out
          · have HNt := Lib.hid hnt
            have hxn : x < n := by rw [Hn.out]; exact hxl
            have hxn' : (x : Int) < n := by omega
            have hx0 : ¬ (x : Int) < 0 := by omega
            have HRow : Hid (wr.ownsRow W.heap.size 3 1 (.slice vo m vc) m (ordC ord)) := Lib.hid HI.out.row
            have HN1 : Hid (∀ (i : Nat) (u : Value), [Value.int .i64 (x : Int)][i]? = some u → (wr.alloc (.cells #[.int .i64 x] 3)).cell? ((⟨wr.heap.size, 0, none⟩ : Addr).add i) = some u) := Lib.hid (by
              intro i u hu
              have e : (⟨wr.heap.size, 0, none⟩ : Addr).add i = ⟨wr.heap.size, i, none⟩ := by unfold Addr.add; split <;> simp_all
              rw [e, cell_alloc, if_pos rfl]
              simpa using hu)
            have hm40 : Hid (m ≤ 40) := Lib.hid (by omega)
            have HKey : Hid (∀ w10 : World, (wr.alloc (.cells #[.int .i64 x] 3)).grownBy w10 (Value.slice vo m vc).ownBlock → Below W.heap.size W w10 ∧ Whole w10 g 4 (boolsC (Tsk.doneOf n ord))) := Lib.hid fun w10 hgrow => by
              have hne : (Value.slice vo m vc).ownBlock ≠ some g := owns_ne HI.out.row HI.out.marks (by decide)
              exact ⟨(HI.out.below.alloc HI.out.below.size _).grown hgrow (by have := HI.out.below.size; rw [size_alloc]; omega) (fun j e => (HI.out.row.lt j e).1), (hgrow.block g (by rw [size_alloc]; have := HI.out.marks.lt; omega) (fun hh => hne hh.symm)).trans (HI.out.marks.alloc _)⟩
            clear hnx hnt hxl
            go_wp2_with (at_builtin; go_loud (refine wpList_append_own _ rfl (.tmp 33) (.tmp 35) 26 rfl W.heap.size 3 i1 (.int .i64 0) 1 8 Try.underlying26 hi1 hy0 hy1 hy2 rfl (by decide) _ _ _ rfl (HRow.out.alloc _) ⟨wr.heap.size, 0, none⟩ 1 1 [.int .i64 x] rfl rfl HN1.out (by simp [Value.oneCell']) (by have := hm40.out; unfold maxLen; omega) (by have := hm40.out; omega) (by have := HI.out.below.size; rw [size_alloc]; omega) ?_); intro v' w10 hown hgrow _; obtain ⟨g', cap', rfl⟩ := owns_succ hown; have HW10 := Lib.hid hown; have hk1 := HKey.out w10 hgrow; have HBk := Lib.hid hk1.1; have HWk := Lib.hid hk1.2; have y2 : w10.cell? ⟨g, x, none⟩ = some (.bool (Tsk.dn (Tsk.doneOf n ord) x)) := (by rw [hk1.2.cell x, boolsC_get (by rw [Tsk.doneOf_len]; exact hxn)]); have y3 := hk1.2.frozen x; clear hown hgrow hk1)
            go_roundw
            case rel =>
              refine ⟨ord ++ [x], some ⟨g', 0, none⟩, m + 1, cap', rfl, Lib.hid ⟨Below.setCell HBk.out (p := ⟨g, x, none⟩) HI.out.new _, ?_, ?_, HI.out.new, by rw [List.length_append, HI.out.len]; rfl, HI.out.way.next HNt.out⟩⟩
              · have h2 := HWk.out.set x (.bool true)
                rw [boolsC_set, Tsk.doneOf_set] at h2
                exact h2
              · have e : ordC (ord ++ [x]) = ordC ord ++ [.int .i64 x] := by simp [ordC]
                rw [e]
                have hne : (Value.slice (some ⟨g', 0, none⟩) (m + 1) cap').ownBlock ≠ some g := owns_ne HW10.out HWk.out (by decide)
                exact HW10.out.kept (row := some g) ⟨rfl, rfl, rfl, by simp, fun j _ hj => Below.heap_setCell _ _ _ _ (fun e => hj (by rw [e]))⟩ (Or.inr hne)
            case measure => simp; omega
        · obtain ⟨q, rfl⟩ : ∃ q, k = q + 1 := ⟨k - 1, by omega⟩
          obtain rfl : u = (q : Int) := by omega
          have hq0 : (0 : Int) ≤ q := by omega
          have HC := Lib.hid (HRdw.out q (by omega))
          have hqn : q < n := by omega
          have hqn' : (q : Int) < n := by omega
          clear hu
          rw [HRE.out q hqn] at HC
          obtain ⟨rd, Hrd⟩ : ∃ y, Hid (y = Tsk.readyB l ord q) := ⟨_, Lib.hid rfl⟩
          rw [← Hrd.out] at HC
          cases rd
          · go_wp2_with fail
            refine HC.out.mono ?_
            rintro e _ ⟨rfl, rfl⟩
            go_wp2
            go_round
            case rel => exact ⟨q, by omega, _, _, rfl, rfl, rfl, Lib.hid (HN.out.no Hrd.out.symm)⟩
            case measure => simp only [intOf]; omega
          · go_wp2_with fail
            refine HC.out.mono ?_
            rintro e _ ⟨rfl, rfl⟩
            go_wp2
            go_round
            case rel => exact ⟨q, by omega, _, _, rfl, rfl, rfl, Lib.hid (Tsk.NextP.yes hqn Hrd.out.symm)⟩
            case measure => simp only [intOf]; omega
    · obtain rfl : m = n := by omega
      have HP : Hid (OrderPost l W (.returned (.tuple #[.slice vo m vc, .int .i64 0])) wr) := Lib.hid (by
        have hend := HI.out.way.full (by rw [← HI.out.len, Hn.out])
        have h1 : ¬ (Tsk.orderL l).length < l.length := by rw [← hend, ← HI.out.len, ← Hn.out]; omega
        have h2 : Tsk.orderV l = Tsk.orderL l := by unfold Tsk.orderV; rw [decide_eq_true (by omega), HVB.out]; rfl
        have h3 : Tsk.orderE l = 0 := by unfold Tsk.orderE; rw [if_pos HVB.out, if_neg h1]
        unfold OrderPost
        rw [h2, h3, ← hend, ← HI.out.len]
        refine ⟨vo, vc, rfl, HI.out.below, ?_⟩
        exact ints_of_row HI.out.row HI.out.len)
      go_wp2
      go_ret2
      exact HP.out

theorem rorder_any (l : List Tk) (hf : ∀ t ∈ l, tkFine t) (hn : l.length ≤ 9223372036854775807) (ao : Option Addr) (cap : Nat) (W : World) (hl : IsTasks W ao l) :
    Calls Try.prog 12 #[.slice ao l.length cap] W (OrderPost l W) := by
  cases hv : Tsk.validB l
  · have HV := Lib.hid (rvalid_any l hf hn ao cap W hl)
    rw [hv] at HV
    obtain ⟨n, Hn⟩ : ∃ n, Hid (n = l.length) := ⟨_, Lib.hid rfl⟩
    rw [← Hn.out] at HV ⊢
    have HP : Hid (∀ w', Below W.heap.size W w' → OrderPost l W (.returned (.tuple #[.slice none 0 0, .int .i64 1])) w') := Lib.hid fun w' hb => by
      have h2 : Tsk.orderV l = [] := by unfold Tsk.orderV; rw [hv]; rfl
      have h3 : Tsk.orderE l = 1 := by unfold Tsk.orderE; rw [hv]; rfl
      unfold OrderPost
      rw [h2, h3]
      exact ⟨none, 0, rfl, hb, Or.inl rfl⟩
    clear hf hv hl hn
    go_enter Try.func12, Try.ntmps12
    go_wp2_with fail
    refine HV.out.mono ?_
    rintro e w1 ⟨rfl, hb⟩
    have HB := Lib.hid hb
    clear hb
    go_wp2
    go_ret2
    exact HP.out _ HB.out
  · exact rorder_yes l hf hv ao cap W hl

end Go.Proofs.Ytejgbfaampllaaa
