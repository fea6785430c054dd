/- The walk: what each task needs, directly or not. -/
import Derived.Test.YtejgbfaampllaaaTskRefB
import Derived.Test.YtejgbfaampllaaaTskVia
namespace Go.Proofs.Ytejgbfaampllaaa
open Go.RowKit

theorem info_bools : (Try.prog.info? 23).map (fun i => (i.zero, i.size, i.bytes)) = some (some (.slice none 0 0), 1, 24) := by kernel_rfl
/-- The rows that were made so far. -/
def rowsC (n k : Nat) (h : Nat → Nat) : Array Value := ((List.range n).map fun i => if i < k then Value.slice (some ⟨h i, 0, none⟩) n n else .slice none 0 0).toArray
theorem rowsC_get {n k i : Nat} {h : Nat → Nat} (hi : i < n) : (rowsC n k h)[i]? = some (if i < k then Value.slice (some ⟨h i, 0, none⟩) n n else .slice none 0 0) := by
  simp [rowsC, hi]
theorem rowsC_zero (n : Nat) (h : Nat → Nat) : (List.replicate n (Value.slice none 0 0)).toArray = rowsC n 0 h := by
  unfold rowsC
  congr 1
  apply List.ext_getElem
  · simp
  · intro i h1 h2
    simp
theorem rowsC_set {n k : Nat} {h : Nat → Nat} (b : Nat) : (rowsC n k h).setIfInBounds k (.slice (some ⟨b, 0, none⟩) n n) = rowsC n (k + 1) (fun p => if p = k then b else h p) := by
  apply Array.ext
  · simp [rowsC]
  · intro i h1 h2
    simp only [rowsC, List.setIfInBounds_toArray, List.getElem_toArray, List.getElem_set, List.getElem_map, List.getElem_range]
    by_cases e : k = i
    · subst e; simp
    · rw [if_neg e]
      have e2 : ¬ i = k := fun hh => e hh.symm
      rw [if_neg e2]
      by_cases h3 : i < k
      · rw [if_pos h3, if_pos (by omega)]
      · rw [if_neg h3, if_neg (by omega)]
/-- A matrix whose first k rows were made. -/
structure Mat (W : World) (B g n k : Nat) (h : Nat → Nat) (R : Nat → List Bool) : Prop where
  outer : Whole W g 23 (rowsC n k h)
  row : ∀ i, i < k → Whole W (h i) 4 (boolsC (R i))
  inj : ∀ i j, i < k → j < k → h i = h j → i = j
  far : ∀ i, i < k → B ≤ h i
  gB : B ≤ g
theorem Mat.drew {W : World} {B g n k : Nat} {h : Nat → Nat} {R : Nat → List Bool} (m : Mat W B g n k h R) : Mat W.drew B g n k h R :=
  ⟨m.outer.drew, fun i hi => (m.row i hi).drew, m.inj, m.far, m.gB⟩
theorem Mat.at {W : World} {B g n k : Nat} {h : Nat → Nat} {R : Nat → List Bool} (m : Mat W B g n k h R) {i : Nat} (hi : i < k) (hn : i < n) : W.cell? ⟨g, i, none⟩ = some (.slice (some ⟨h i, 0, none⟩) n n) := by
  rw [m.outer.cell i, rowsC_get hn, if_pos hi]
theorem Mat.get {W : World} {B g n k : Nat} {h : Nat → Nat} {R : Nat → List Bool} (m : Mat W B g n k h R) {i q : Nat} (hi : i < k) (hq : q < (R i).length) : W.cell? ⟨h i, q, none⟩ = some (.bool (Tsk.dn (R i) q)) := by
  rw [(m.row i hi).cell q, boolsC_get hq]
theorem Mat.set {W : World} {B g n k : Nat} {h : Nat → Nat} {R : Nat → List Bool} (m : Mat W B g n k h R) {i : Nat} (hi : i < k) (q : Nat) (v : Bool) : Mat (W.setCell ⟨h i, q, none⟩ (.bool v)) B g n k h (Tsk.putR R i q v) := by
  refine ⟨m.outer.far (p := ⟨h i, q, none⟩) (m.outer.apart (m.row i hi) (by decide)) _, fun p hp => ?_, m.inj, m.far, m.gB⟩
  unfold Tsk.putR
  by_cases e : p = i
  · subst e
    rw [if_pos rfl]
    have h2 := (m.row p hi).set q (.bool v)
    rwa [boolsC_set] at h2
  · rw [if_neg e]
    exact (m.row p hp).far (p := ⟨h i, q, none⟩) (fun e2 => e (m.inj p i hp hi e2)) _
/-- A row more. -/
theorem Mat.add {W W2 : World} {B g n k : Nat} {h : Nat → Nat} {R : Nat → List Bool} (m : Mat W B g n k h R) (hB : B ≤ W.heap.size) {row : List Bool} (hb : Below W.heap.size W W2) (hw : Whole W2 W.heap.size 4 (boolsC row)) :
    Mat (W2.setCell ⟨g, k, none⟩ (.slice (some ⟨W.heap.size, 0, none⟩) n n)) B g n (k + 1) (fun p => if p = k then W.heap.size else h p) (fun p => if p = k then row else R p) := by
  have ho : Whole W2 g 23 (rowsC n k h) := (hb.block g m.outer.lt).trans m.outer
  refine ⟨?_, fun i hi => ?_, fun i j hi hj he => ?_, fun i hi => ?_, m.gB⟩
  · rw [← rowsC_set]
    exact ho.set k _
  · by_cases e : i = k
    · subst e
      rw [if_pos rfl, if_pos rfl]
      exact hw.far (p := ⟨g, i, none⟩) (fun e => ho.apart hw (by decide) e.symm) _
    · rw [if_neg e, if_neg e]
      have h1 : Whole W2 (h i) 4 (boolsC (R i)) := (hb.block _ (m.row i (by omega)).lt).trans (m.row i (by omega))
      exact h1.far (p := ⟨g, k, none⟩) (fun e => ho.apart h1 (by decide) e.symm) _
  · by_cases e1 : i = k
    · by_cases e2 : j = k
      · omega
      · rw [if_pos e1, if_neg e2] at he
        have := (m.row j (by omega)).lt
        omega
    · by_cases e2 : j = k
      · rw [if_neg e1, if_pos e2] at he
        have := (m.row i (by omega)).lt
        omega
      · rw [if_neg e1, if_neg e2] at he
        exact m.inj i j (by omega) (by omega) he
  · by_cases e : i = k
    · rw [if_pos e]; exact hB
    · rw [if_neg e]; exact m.far i (by omega)
/-- What the call for all that is needed leaves. -/
structure IsNeeds (l : List Tk) (W : World) (g n : Nat) (h : Nat → Nat) (R : Nat → Nat → Bool) : Prop where
  gl : g < W.heap.size
  hl : ∀ i, i < n → h i < W.heap.size
  out : ∀ i, i < n → W.cell? ⟨g, i, none⟩ = some (.slice (some ⟨h i, 0, none⟩) n n)
  val : ∀ i k, i < n → k < n → W.cell? ⟨h i, k, none⟩ = some (.bool (R i k))
  path : ∀ i k, i < n → k < n → (R i k = true ↔ Tsk.Path l i k)
theorem IsNeeds.below {l : List Tk} {W W' : World} {g n : Nat} {h : Nat → Nat} {R : Nat → Nat → Bool} (x : IsNeeds l W g n h R) (hb : Below W.heap.size W W') : IsNeeds l W' g n h R :=
  ⟨Nat.lt_of_lt_of_le x.gl hb.size, fun i hi => Nat.lt_of_lt_of_le (x.hl i hi) hb.size, fun i hi => by rw [hb.cell (p := ⟨g, i, none⟩) x.gl]; exact x.out i hi, fun i k hi hk => by rw [hb.cell (p := ⟨h i, k, none⟩) (x.hl i hi)]; exact x.val i k hi hk, x.path⟩

set_option maxRecDepth 100000 in
set_option maxHeartbeats 8000000 in
theorem needs_any (l : List Tk) (hv : Tsk.validB l = true) (n : Nat) (hn : n = l.length) (ao : Option Addr) (cap : Nat) (W : World) (hl : IsTasks W ao l) :
    Calls Try.prog 23 #[.slice ao n cap] W fun e w' => ∃ g h R, e = .returned (.slice (some ⟨g, 0, none⟩) n n) ∧ Below W.heap.size W w' ∧ IsNeeds l w' g n h R := by
  have h40 := (Tsk.validB_iff.1 hv).1
  have HNA := Lib.hid fun (W' : World) (h : IsTasks W' ao l) k (hk : k < n) => needs_at hv hn h hk
  have HL := Lib.hid hl
  have HVB := Lib.hid hv
  have Hn := Lib.hid hn
  have hn' : (n : Int) ≤ 40 := by omega
  obtain ⟨i1, hi1, hy0, hy1, hy2⟩ := info_parts info_bools
  obtain ⟨j1, hj1, hz0, hz1, hz2⟩ := info_parts info_bool
  clear hv hn hl
  go_enter Try.func23, Try.ntmps23
  go_wp2_with (at_make; refine wpList_make_full _ rfl _ _ 38 rfl W.heap.size 23 i1 (.slice none 0 0) 1 Try.underlying38 hi1 hy0 hy1 .i64 .i64 _ _ n rfl rfl rfl rfl (by rw [hy2]; omega) (by unfold maxLen; omega) (Nat.le_refl _) ?_; intro w2 hown hgr; have HO2 := Lib.hid hown; have HG2 := Lib.hid hgr; clear hown hgr)
  obtain ⟨g, Hg⟩ : ∃ x, Hid (x = W.heap.size) := ⟨_, Lib.hid rfl⟩
  have HM0 : Hid (Below W.heap.size W w2 ∧ ∃ h R, Mat w2 W.heap.size g n 0 h R ∧ ∀ p, p < 0 → R p = Tsk.doneOf n (Tsk.needsAt l p)) := Lib.hid (by
    refine ⟨⟨HG2.out.os, HG2.out.tape, HG2.out.output, HG2.out.size, fun k hk => HG2.out.block k hk (by simp)⟩, fun _ => 0, fun _ => [], ?_, fun p hp => by omega⟩
    have ho := HO2.out
    have e1 : (madeCells (Value.slice none 0 0).cells (n * 1)).toList = List.replicate n (.slice none 0 0) := by rw [Nat.mul_one]; exact toList_madeCells_one _ _
    rw [e1] at ho
    have hw := whole_of_full ho (by simp)
    rw [rowsC_zero n (fun _ => 0)] at hw
    rw [Hg.out]
    exact ⟨hw, fun i hi => by omega, fun i j hi => by omega, fun i hi => by omega, Nat.le_refl _⟩)
  have HKey : Hid (∀ (wo w5 : World), w5.ownsRow wo.heap.size 4 1 (.slice (some ⟨wo.heap.size, 0, none⟩) n n) n (madeCells (Value.bool false).cells (n * 1)).toList → wo.grownBy w5 none → Below wo.heap.size wo w5 ∧ Whole w5 wo.heap.size 4 (boolsC (Tsk.doneOf n []))) := Lib.hid fun wo w5 hown hgr => by
    refine ⟨⟨hgr.os, hgr.tape, hgr.output, hgr.size, fun k hk => hgr.block k hk (by simp)⟩, ?_⟩
    have e1 : (madeCells (Value.bool false).cells (n * 1)).toList = List.replicate n (.bool false) := by rw [Nat.mul_one]; exact toList_madeCells_one _ _
    rw [e1] at hown
    have hw := whole_of_full hown (by simp)
    have e2 : (List.replicate n (Value.bool false)).toArray = boolsC (Tsk.doneOf n []) := by rw [Tsk.doneOf_nil]; simp [boolsC]
    rwa [e2] at hw
  rw [← Hg.out]
  go_loopw [4] (fun a wr => ∃ i : Nat, i ≤ n ∧ a = .int .i64 i ∧ Hid (Below W.heap.size W wr ∧ ∃ h R, Mat wr W.heap.size g n i h R ∧ ∀ p, p < i → R p = Tsk.doneOf n (Tsk.needsAt l p))) (fun a _ => n - (intOf a).toNat)
  case atStart => exact ⟨0, by omega, rfl, HM0⟩
  case round =>
    obtain ⟨i, hi, rfl, HI⟩ := hrel
    by_cases hlti : i < n
    · have hlti' : (i : Int) < n := by omega
      obtain ⟨hbw, h, R, hM, hR⟩ := HI.out
      have HM := Lib.hid hM
      have HR := Lib.hid hR
      have HBw := Lib.hid hbw
      clear hbw hM hR
      go_wp2_with (at_make; refine wpList_make_full _ rfl _ _ 23 rfl wr.heap.size 4 j1 (.bool false) 1 Try.underlying23 hj1 hz0 hz1 .i64 .i64 _ _ n rfl rfl rfl rfl (by rw [hz2]; omega) (by unfold maxLen; omega) (Nat.le_refl _) ?_; intro w5 hown hgr; have hk5 := HKey.out wr w5 hown hgr; have HB5 := Lib.hid hk5.1; have HW5 := Lib.hid hk5.2; have y1 : Whole w5 g 23 (rowsC n i h) := (hk5.1.block g HM.out.outer.lt).trans HM.out.outer; have y2 : w5.cell? ⟨g, i, none⟩ = some (if i < i then Value.slice (some ⟨h i, 0, none⟩) n n else .slice none 0 0) := (by rw [y1.cell i, rowsC_get hlti]); have y3 := y1.frozen i; rw [if_neg (Nat.lt_irrefl i)] at y2; clear hown hgr hk5)
      clear y1 y2 y3
      have HM5 : Hid (Below W.heap.size W (w5.setCell ⟨g, i, none⟩ (.slice (some ⟨wr.heap.size, 0, none⟩) n n)) ∧ ∃ h R, Mat (w5.setCell ⟨g, i, none⟩ (.slice (some ⟨wr.heap.size, 0, none⟩) n n)) W.heap.size g n (i + 1) h R ∧ R i = Tsk.doneOf n ((Tsk.needsAt l i).take 0) ∧ ∀ p, p < i → R p = Tsk.doneOf n (Tsk.needsAt l p)) := Lib.hid (by
        refine ⟨Below.setCell (below_step HBw.out HB5.out) (p := ⟨g, i, none⟩) HM.out.gB _, _, _, HM.out.add HBw.out.size HB5.out HW5.out, ?_, fun p hp => ?_⟩
        · rw [if_pos rfl]; rfl
        · rw [if_neg (by omega)]; exact HR.out p hp)
      obtain ⟨wq, Hwq⟩ : ∃ x, Hid (x = w5.setCell ⟨g, i, none⟩ (.slice (some ⟨wr.heap.size, 0, none⟩) n n)) := ⟨_, Lib.hid rfl⟩
      rw [← Hwq.out] at HM5 ⊢
      obtain ⟨wo, rfl⟩ : ∃ y, y = wr := ⟨_, rfl⟩
      obtain ⟨m, Hm⟩ : ∃ m, Hid (m = (Tsk.needsAt l i).length) := ⟨_, Lib.hid rfl⟩
      go_loopw [5] (fun a wr => ∃ k : Nat, k ≤ m ∧ a = .int .i64 k ∧ Hid (Below W.heap.size W wr ∧ ∃ h R, Mat wr W.heap.size g n (i + 1) h R ∧ R i = Tsk.doneOf n ((Tsk.needsAt l i).take k) ∧ ∀ p, p < i → R p = Tsk.doneOf n (Tsk.needsAt l p))) (fun a _ => m - (intOf a).toNat)
      case atStart => exact ⟨0, by omega, rfl, HM5⟩
      case round =>
        obtain ⟨k, hk, rfl, HK⟩ := hrel
        obtain ⟨bk, off, ao2, cap2, zs, rfl, hbk, -, -, -, c4, hin2, hzs, hzl, hz40⟩ := HNA.out wr (HL.out.below HK.out.1) i hlti
        have hzm : zs.length = m := by rw [hzs, Hm.out]
        rw [hzm] at c4 hz40
        by_cases hltk : k < m
        · have hltk' : (k : Int) < m := by omega
          have hkz : k < zs.length := by omega
          obtain ⟨b4, o4, rfl, hb4, d4⟩ := ints_at hin2 hkz
          obtain ⟨y, Hy⟩ : ∃ y : Nat, Hid (y = zs[k]) := ⟨_, Lib.hid rfl⟩
          rw [← Hy.out] at d4
          have hyn : y < n := by rw [Hy.out]; exact hzl _ (List.getElem_mem _)
          have hyn' : (y : Int) < n := by omega
          have HTk : Hid ((Tsk.needsAt l i).take (k + 1) = (Tsk.needsAt l i).take k ++ [y]) := Lib.hid (by
            rw [← hzs, List.take_succ_eq_append_getElem hkz, Hy.out])
          obtain ⟨hbw, h, R, hM, hRi, hR⟩ := HK.out
          have z1 := hM.at (Nat.lt_succ_self i) hlti
          have hRl : y < (R i).length := by rw [hRi, Tsk.doneOf_len]; exact hyn
          have z2 := hM.get (Nat.lt_succ_self i) hRl
          have z3 := (hM.row i (Nat.lt_succ_self i)).frozen y
          have HM2 : Hid (Below W.heap.size W (wr.setCell ⟨h i, y, none⟩ (.bool true)) ∧ Mat (wr.setCell ⟨h i, y, none⟩ (.bool true)) W.heap.size g n (i + 1) h (Tsk.putR R i y true)) := Lib.hid ⟨Below.setCell hbw (p := ⟨h i, y, none⟩) (hM.far i (Nat.lt_succ_self i)) _, hM.set (Nat.lt_succ_self i) y true⟩
          have HRi := Lib.hid hRi
          have HR2 := Lib.hid hR
          clear hin2 hzs hzl hb4 hbk hbw hM Hy hkz hzm hRi hR hRl
          go_wp2_with fail
          go_still_tail 13, (by kernel_rfl)
          repeat still_step
          try refine wpStill_nil ?_
          go_wp2
          go_roundw
          case rel => exact ⟨k + 1, by omega, by go_num, Lib.hid ⟨HM2.out.1.drew, h, _, HM2.out.2.drew, by
            unfold Tsk.putR
            rw [if_pos rfl, HRi.out, Tsk.doneOf_set, HTk.out], fun p hp => by
            unfold Tsk.putR
            rw [if_neg (by omega)]; exact HR2.out p hp⟩⟩
          case measure => simp [intOf]; omega
        · have HEnd : Hid (∃ h R, Mat wr W.heap.size g n (i + 1) h R ∧ ∀ p, p < i + 1 → R p = Tsk.doneOf n (Tsk.needsAt l p)) := Lib.hid (by
            obtain ⟨_, h, R, hM, hRi, hR⟩ := HK.out
            refine ⟨h, R, hM, fun p hp => ?_⟩
            by_cases e : p = i
            · subst e
              rw [hRi, List.take_of_length_le (by have := Hm.out; omega)]
            · exact hR p (by omega))
          obtain rfl : m = k := by omega
          clear hin2 hzs hzl hbk hzm
          go_wp2
          go_roundw
          case rel => exact ⟨i + 1, by omega, by go_num, Lib.hid ⟨HK.out.1, HEnd.out⟩⟩
          case measure => simp [intOf]; omega
    · have HV0 : Hid (Below W.heap.size W wr ∧ ∃ h R, Mat wr W.heap.size g n n h R ∧ Tsk.ViaP l n 0 0 0 R) := Lib.hid (by
        obtain ⟨hbw, h, R, hM, hR⟩ := HI.out
        obtain rfl : i = n := by omega
        exact ⟨hbw, h, R, hM, Tsk.ViaP.start hR⟩)
      obtain rfl : n = i := by omega
      go_wp2
      obtain ⟨wo, rfl⟩ : ∃ y, y = wr := ⟨_, rfl⟩
      go_loopw [6] (fun a wr => ∃ r : Nat, r ≤ n ∧ a = .int .i64 r ∧ Hid (Below W.heap.size W wr ∧ ∃ h R, Mat wr W.heap.size g n n h R ∧ Tsk.ViaP l n r 0 0 R)) (fun a _ => n - (intOf a).toNat)
      case atStart => exact ⟨0, by omega, rfl, HV0⟩
      case round =>
        obtain ⟨r, hr, rfl, HR⟩ := hrel
        by_cases hltr : r < n
        · have hltr' : (r : Int) < n := by omega
          go_wp2
          obtain ⟨wp, rfl⟩ : ∃ y, y = wr := ⟨_, rfl⟩
          go_loopw [7] (fun a wr => ∃ i : Nat, i ≤ n ∧ a = .int .i64 i ∧ Hid (Below W.heap.size W wr ∧ ∃ h R, Mat wr W.heap.size g n n h R ∧ Tsk.ViaP l n r i 0 R)) (fun a _ => n - (intOf a).toNat)
          case atStart => exact ⟨0, by omega, rfl, HR⟩
          case round =>
            obtain ⟨i, hi2, rfl, HQ⟩ := hrel
            by_cases hlti : i < n
            · have hlti' : (i : Int) < n := by omega
              go_wp2
              obtain ⟨wq, rfl⟩ : ∃ y, y = wr := ⟨_, rfl⟩
              go_loopw [8] (fun a wr => ∃ k : Nat, k ≤ n ∧ a = .int .i64 k ∧ Hid (Below W.heap.size W wr ∧ ∃ h R, Mat wr W.heap.size g n n h R ∧ Tsk.ViaP l n r i k R)) (fun a _ => n - (intOf a).toNat)
              case atStart => exact ⟨0, by omega, rfl, HQ⟩
              case round =>
                obtain ⟨k, hk, rfl, HK⟩ := hrel
                by_cases hltk : k < n
                · have hltk' : (k : Int) < n := by omega
                  obtain ⟨hbw, h, R, hM, hV⟩ := HK.out
                  have z1 := hM.at hlti hlti
                  have z2 := hM.at hltr hltr
                  have z3 := hM.get hlti (q := k) (by rw [hV.len i hlti]; exact hltk)
                  have z4 := hM.get hlti (q := r) (by rw [hV.len i hlti]; exact hltr)
                  have z5 := hM.get hltr (q := k) (by rw [hV.len r hltr]; exact hltk)
                  have z6 := (hM.row i hlti).frozen k
                  obtain ⟨x1, Hx1⟩ : ∃ x, Hid (x = Tsk.dn (R i) k) := ⟨_, Lib.hid rfl⟩
                  obtain ⟨x2, Hx2⟩ : ∃ x, Hid (x = Tsk.dn (R i) r) := ⟨_, Lib.hid rfl⟩
                  obtain ⟨x3, Hx3⟩ : ∃ x, Hid (x = Tsk.dn (R r) k) := ⟨_, Lib.hid rfl⟩
                  have HVn := Lib.hid (hV.step hlti hltk hltr)
                  rw [← Hx1.out, ← Hx2.out, ← Hx3.out] at HVn
                  rw [← Hx1.out] at z3
                  rw [← Hx2.out] at z4
                  rw [← Hx3.out] at z5
                  have HM2 : Hid (∀ v, Below W.heap.size W (wr.setCell ⟨h i, k, none⟩ (.bool v)) ∧ Mat (wr.setCell ⟨h i, k, none⟩ (.bool v)) W.heap.size g n n h (Tsk.putR R i k v)) := Lib.hid fun v => ⟨Below.setCell hbw (p := ⟨h i, k, none⟩) (hM.far i hlti) _, hM.set hlti k v⟩
                  clear hbw hM hV
                  cases x1
                  · cases x2
                    · go_wp2_with fail
                      refine wp_region_quiet_tail 31 (by kernel_rfl) (by kernel_rfl) ?_
                      simp only [List.take_succ_cons, List.take_zero, List.drop_succ_cons, List.drop_zero]
                      repeat (go_big_quiet_step (fail))
                      refine wpQuiet_nil ?_
                      go_wp2
                      go_roundw
                      case rel => exact ⟨k + 1, by omega, by go_num, Lib.hid ⟨(HM2.out false).1.drew, h, _, (HM2.out false).2.drew, HVn.out⟩⟩
                      case measure => simp [intOf]; omega
                    · go_wp2_with fail
                      refine wp_region_quiet_tail 31 (by kernel_rfl) (by kernel_rfl) ?_
                      simp only [List.take_succ_cons, List.take_zero, List.drop_succ_cons, List.drop_zero]
                      repeat (go_big_quiet_step (fail))
                      refine wpQuiet_nil ?_
                      go_wp2
                      go_roundw
                      case rel => exact ⟨k + 1, by omega, by go_num, Lib.hid ⟨(HM2.out x3).1.drew, h, _, (HM2.out x3).2.drew, by have := HVn.out; simpa using this⟩⟩
                      case measure => simp [intOf]; omega
                  · go_wp2_with fail
                    refine wp_region_quiet_tail 31 (by kernel_rfl) (by kernel_rfl) ?_
                    simp only [List.take_succ_cons, List.take_zero, List.drop_succ_cons, List.drop_zero]
                    repeat (go_big_quiet_step (fail))
                    refine wpQuiet_nil ?_
                    go_wp2
                    go_roundw
                    case rel => exact ⟨k + 1, by omega, by go_num, Lib.hid ⟨(HM2.out true).1.drew, h, _, (HM2.out true).2.drew, HVn.out⟩⟩
                    case measure => simp [intOf]; omega
                · have HEnd : Hid (∃ h R, Mat wr W.heap.size g n n h R ∧ Tsk.ViaP l n r (i + 1) 0 R) := Lib.hid (by
                    obtain ⟨_, h, R, hM, hV⟩ := HK.out
                    obtain rfl : k = n := by omega
                    exact ⟨h, R, hM, hV.next⟩)
                  obtain rfl : n = k := by omega
                  go_wp2
                  go_roundw
                  case rel => exact ⟨i + 1, by omega, by go_num, Lib.hid ⟨HK.out.1, HEnd.out⟩⟩
                  case measure => simp [intOf]; omega
            · have HEnd : Hid (∃ h R, Mat wr W.heap.size g n n h R ∧ Tsk.ViaP l n (r + 1) 0 0 R) := Lib.hid (by
                obtain ⟨_, h, R, hM, hV⟩ := HQ.out
                obtain rfl : i = n := by omega
                exact ⟨h, R, hM, hV.round⟩)
              obtain rfl : n = i := by omega
              go_wp2
              go_roundw
              case rel => exact ⟨r + 1, by omega, by go_num, Lib.hid ⟨HQ.out.1, HEnd.out⟩⟩
              case measure => simp [intOf]; omega
        · have HP : Hid (∃ h R, IsNeeds l wr g n h R) := Lib.hid (by
            obtain ⟨_, h, R, hM, hV⟩ := HR.out
            obtain rfl : r = n := by omega
            exact ⟨h, fun i k => Tsk.dn (R i) k, hM.outer.lt, fun i hi => (hM.row i hi).lt, fun i hi => hM.at hi hi, fun i k hi hk => hM.get hi (by rw [hV.len i hi]; exact hk), fun i k hi hk => hV.ends HVB.out Hn.out hi hk⟩)
          obtain rfl : n = r := by omega
          go_wp2
          go_ret
          obtain ⟨h, R, hN⟩ := HP.out
          exact ⟨g, h, R, rfl, HR.out.1, hN⟩

end Go.Proofs.Ytejgbfaampllaaa
