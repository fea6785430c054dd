/- The statement on tasks that wait for nothing: its walk. -/
import Derived.Test.YtejgbfaampllaaaTskHead
import Derived.Test.YtejgbfaampllaaaTskFew
import Derived.Test.YtejgbfaampllaaaTskRValid
import Derived.Test.YtejgbfaampllaaaTskCopyW
import Derived.Test.YtejgbfaampllaaaTskFreeMath
import Derived.Test.YtejgbfaampllaaaTskRefA
namespace Go.Proofs.Ytejgbfaampllaaa
open Go.RowKit

theorem ints_rows2 {W : World} {ao : Option Addr} {zs : List Nat} (h : IsInts W ao (Tsk.ints zs)) (h0 : 0 < zs.length) : ∃ bk off, ao = some ⟨bk, off, none⟩ ∧ bk < W.heap.size ∧ ∀ k, (hk : k < zs.length) → W.cell? ⟨bk, off + k, none⟩ = some (.int .i64 (zs[k] : Nat)) := by
  rcases h with h | ⟨bk, off, h1, h2, h3⟩
  · cases zs with
    | nil => simp at h0
    | cons a t => cases h
  · exact ⟨bk, off, h1, h2, fun k hk => by rw [h3 k (by simpa [Tsk.ints] using hk)]; simp [Tsk.ints]⟩

set_option maxRecDepth 100000 in
set_option maxHeartbeats 8000000 in
theorem free37_any (l : List Tk) (hn : l.length ≤ 9223372036854775807) (hf : ∀ t ∈ l, tkFine t) (ao : Option Addr) (cap : Nat) (hcap : (ao = none ∧ cap = 0) ∨ ∃ ad, ao = some ad) (done : List Bool) (hdn : done.length ≤ 9223372036854775807) (bo : Option Addr) (capb : Nat) (raw : Int) (hr0 : 0 ≤ raw) (hr1 : raw ≤ 255) (W : World) (hl : IsTasks W ao l) (hb : IsBools W bo done) :
    Calls Try.prog 8 #[.slice ao l.length cap, .slice bo done.length capb, .int .u8 raw] W fun e w' => e = .returned (.bool true) ∧ Below W.heap.size W w' := by
  have HH := Lib.hid (head37_any W)
  have HF := Lib.hid fun w' (h : IsTasks w' ao l) => few_any l hf hn ao cap w' h
  have HV := Lib.hid fun w' (h : IsTasks w' ao l) => rvalid_any l hf hn ao cap w' h
  obtain ⟨n, Hn⟩ : ∃ n, Hid (n = l.length) := ⟨_, Lib.hid rfl⟩
  obtain ⟨m, Hm⟩ : ∃ n, Hid (n = done.length) := ⟨_, Lib.hid rfl⟩
  have HL := Lib.hid hl
  have HD := Lib.hid hb
  have HCap := Lib.hid hcap
  obtain ⟨vb, Hvb⟩ : ∃ n, Hid (n = Tsk.validB l) := ⟨_, Lib.hid rfl⟩
  obtain ⟨fb, Hfb⟩ : ∃ n, Hid (n = Tsk.fewB l) := ⟨_, Lib.hid rfl⟩
  rw [← Hn.out, ← Hfb.out] at HF
  rw [← Hn.out, ← Hvb.out] at HV
  rw [← Hn.out, ← Hm.out]
  clear hl hb hf hn hcap
  go_enter Try.func8, Try.ntmps8
  go_wp2_with fail
  refine HH.out.mono ?_
  rintro e w1 ⟨rfl, hb⟩
  have HB1 := Lib.hid hb
  clear hb
  cases fb
  · go_wp2_with fail
    refine (HF.out _ (HL.out.below HB1.out)).mono ?_
    rintro e _ ⟨rfl, rfl⟩
    go_wp2
    go_ret
    exact ⟨rfl, HB1.out⟩
  · go_wp2_with fail
    refine (HF.out _ (HL.out.below HB1.out)).mono ?_
    rintro e _ ⟨rfl, rfl⟩
    go_wp2_with fail
    refine (HV.out _ (HL.out.below HB1.out)).mono ?_
    rintro e w2 ⟨rfl, hb⟩
    have HB2 := Lib.hid (below_step HB1.out hb)
    clear hb
    by_cases hbad : vb = false ∨ vb = true ∧ ((m : Int) != n) = true
    · rcases hbad with rfl | ⟨rfl, h60⟩
      all_goals
        go_wp2
        go_ret
        exact ⟨rfl, HB2.out⟩
    · obtain rfl : vb = true := by cases vb with | true => rfl | false => exact absurd (Or.inl rfl) hbad
      have hmn : m = n := by
        by_cases e : m = n
        · exact e
        · exact absurd (Or.inr ⟨rfl, by simp; omega⟩) hbad
      subst hmn
      have hnn : ((m : Int) != m) = false := by simp
      have hvb : Tsk.validB l = true := Hvb.out.symm
      have h40 : (m : Int) ≤ 40 := by have := (Tsk.validB_iff.1 hvb).1; have := Hn.out; omega
      have HVB := Lib.hid hvb
      have HDl : Hid (done.length = l.length) := Lib.hid (by rw [← Hm.out, Hn.out])
      clear hvb hbad
      have HW2 : Hid (Whole (w2.alloc (.cells #[] 41)) w2.heap.size 41 #[]) := Lib.hid (Whole.new _ _ _)
      go_wp2_with (at_builtin; refine wpList_copy rfl (.tmp 39) (.tmp 40) rfl w2.heap.size rfl HW2.out w2 (below_alloc (Below.refl _ _) _) (Nat.le_refl _) l _ m _ Hn.out rfl HCap.out (HL.out.below HB2.out) (by omega) ?_; intro vo vc w3 hb3 hcopy; have HB3 := Lib.hid hb3; have HC3 := Lib.hid hcopy; clear hb3 hcopy)
      have hmax := fun (ts : Array TypeId) (t : TypeId) (a b : Int) (w : World) => run_max2 (P := Try.prog) ts t a b w
      have HR0 : Hid (Below w2.heap.size w2 w3 ∧ (m = 0 ∨ ∃ g, vo = some ⟨g, 0, none⟩ ∧ w2.heap.size ≤ g ∧ RowT w3 g m (Tsk.freeUp l 0))) := Lib.hid ⟨HB3.out, HC3.out.imp id fun ⟨g, h1, h2, h3⟩ => ⟨g, h1, h2, h3.congr fun i _ => by unfold Tsk.freeUp; rw [if_neg (by omega)]⟩⟩
      go_loopw [9, 10] (fun v i wr => ∃ k : Nat, k ≤ m ∧ i = .int .i64 k ∧ ∃ x, v = .int .i64 x ∧ Hid (x = Tsk.mostUp l k) ∧ Hid (Below w2.heap.size w2 wr ∧ (m = 0 ∨ ∃ g, vo = some ⟨g, 0, none⟩ ∧ w2.heap.size ≤ g ∧ RowT wr g m (Tsk.freeUp l k)))) (fun _ i _ => m - (intOf i).toNat)
      case atStart => exact ⟨0, by omega, rfl, 0, rfl, Lib.hid rfl, HR0⟩
      case round =>
        obtain ⟨k, hk, rfl, x, rfl, HX, HW⟩ := hrel
        by_cases hlt : k < m
        · have hlt' : (k : Int) < m := by omega
          have hkl : k < l.length := by rw [← Hn.out]; exact hlt
          obtain ⟨g, rfl, hgB, hrow⟩ : ∃ g, vo = some ⟨g, 0, none⟩ ∧ w2.heap.size ≤ g ∧ RowT wr g m (Tsk.freeUp l k) := HW.out.2.elim (fun h => by omega) id
          obtain ⟨c1, c2, c3, ao2, cap2, c4, _⟩ := hrow.cells k hlt
          have HRow := Lib.hid hrow
          have y3 := hrow.frozen (k * 4 + 3)
          have hgl := hrow.lt
          obtain ⟨hh, Hhh⟩ : ∃ y, Hid (y = Tsk.hoursAt l k) := ⟨_, Lib.hid rfl⟩
          have e1 : (Tsk.freeUp l k k).hours = hh := by
            unfold Tsk.freeUp
            rw [if_neg (by omega), tkAt_get hkl, Hhh.out, Tsk.hoursAt_get hkl]
          rw [e1] at c1
          have HNext : Hid (max x hh = Tsk.mostUp l (k + 1)) := Lib.hid (by rw [Tsk.mostUp_succ hkl, ← HX.out, ← Hhh.out])
          have HRn : Hid (RowT (wr.setCell ⟨g, k * 4 + 3, none⟩ (.slice none 0 0)) g m (Tsk.freeUp l (k + 1))) := Lib.hid (by
            have h1 := HRow.out.put hlt (vo := none) (zs := []) (vc := 0) (Or.inl rfl) (Or.inl rfl)
            rw [Tsk.freeUp_next] at h1
            exact h1)
          obtain ⟨len2, hlen2⟩ : ∃ x, x = (Tsk.freeUp l k k).after.length := ⟨_, rfl⟩
          rw [← hlen2] at c4
          clear hrow e1 hlen2 c2 c3
          go_wp2
          go_roundw
          case rel => exact ⟨k + 1, by omega, by go_num, _, rfl, HNext, Lib.hid ⟨Below.setCell HW.out.1 (p := ⟨g, k * 4 + 3, none⟩) hgB _, Or.inr ⟨g, rfl, hgB, HRn.out⟩⟩⟩
          case measure => simp [intOf]; omega
        · have HTs : Hid (IsTasks wr vo (Tsk.FL l)) := Lib.hid (by
            obtain rfl : k = m := by omega
            rcases HW.out.2 with h | ⟨g, rfl, _, h2⟩
            · left
              apply List.eq_nil_of_length_eq_zero
              rw [Tsk.FL_len, ← Hn.out]; exact h
            · have h3 := h2.tasks
              rw [Hn.out] at h3
              exact h3)
          obtain rfl : m = k := by omega
          have hFl : (Tsk.FL l).length = m := by rw [Tsk.FL_len, ← Hn.out]
          have hFn : (Tsk.FL l).length ≤ 9223372036854775807 := by omega
          have HO := Lib.hid fun w' (h : IsTasks w' vo (Tsk.FL l)) => order_any (Tsk.FL l) (Tsk.FL_fine l) hFn vo vc w' h
          have HC := Lib.hid fun w' (h : IsTasks w' vo (Tsk.FL l)) => crit_any (Tsk.FL l) (Tsk.FL_fine l) hFn vo vc w' h
          have HR := Lib.hid fun w' (h : IsTasks w' vo (Tsk.FL l)) (hd : IsBools w' bo done) => ready_any (Tsk.FL l) (Tsk.FL_fine l) hFn done hdn vo bo vc capb w' h hd
          have HU := Lib.hid fun (t : Int) w' (h : IsTasks w' vo (Tsk.FL l)) (hd : IsBools w' bo done) => undo_any (Tsk.FL l) (Tsk.FL_fine l) hFn done t vo bo vc capb w' h hd
          unfold OrderPost at HO
          unfold ReadyPost at HR
          unfold UndoPost at HU
          rw [hFl, Tsk.FL_orderE HVB.out, Tsk.FL_orderV HVB.out, List.length_range, ← Hn.out] at HO
          rw [hFl, Tsk.FL_crit HVB.out, Tsk.FL_orderE HVB.out, ← Hn.out, ← HX.out] at HC
          rw [hFl, ← Hm.out, Tsk.FL_ready HVB.out HDl.out, ← Hn.out] at HR
          rw [hFl, ← Hm.out] at HU
          obtain ⟨rv, Hrv⟩ : ∃ y, Hid (y = Tsk.readyUp (Tsk.FL l) done m) := ⟨_, Lib.hid rfl⟩
          rw [← Hrv.out] at HR
          obtain ⟨rl, Hrl⟩ : ∃ y, Hid (y = rv.length) := ⟨_, Lib.hid rfl⟩
          rw [← Hrl.out] at HR
          have hrl40 : rl ≤ m := by rw [Hrl.out, Hrv.out]; exact Tsk.readyUp_len _ _ _
          have hxx : (x != x) = false := by simp
          have HBw : Hid (Below w2.heap.size w2 wr) := Lib.hid HW.out.1
          clear HW hFl hFn
          go_wp2_with fail
          refine (HO.out _ HTs.out).mono ?_
          rintro e w4 ⟨o1, k1, rfl, hb, hi⟩
          have HB4 := Lib.hid (below_step HBw.out hb)
          have HT4 := Lib.hid (HTs.out.below hb)
          have HI1 := Lib.hid hi
          clear hb hi
          go_wp2_with fail
          refine (HC.out _ HT4.out).mono ?_
          rintro e w5 ⟨rfl, hb⟩
          have HB5 := Lib.hid (below_step HB4.out hb)
          have HT5 := Lib.hid (HT4.out.below hb)
          have HI1 := Lib.hid (HI1.out.below hb)
          clear hb
          go_wp2_with fail
          refine (HR.out _ HT5.out (HD.out.below (below_step HB2.out HB5.out))).mono ?_
          rintro e w6 ⟨o3, k3, rfl, hb, hi⟩
          have HB6 := Lib.hid (below_step HB5.out hb)
          have HT6 := Lib.hid (HT5.out.below hb)
          have HI1 := Lib.hid (HI1.out.below hb)
          have HI3 := Lib.hid hi
          clear hb hi
          go_wp2
          go_loop [16, 17] (fun c i => ∃ j : Nat, j ≤ m ∧ i = .int .i64 j ∧ ∃ q : Nat, c = .int .i64 q ∧ Hid (q = (Tsk.readyUp (Tsk.FL l) done j).length)) (fun _ i => m - (intOf i).toNat)
          case atStart => exact ⟨0, by omega, rfl, 0, rfl, Lib.hid rfl⟩
          case round =>
            obtain ⟨j, hj, rfl, q, rfl, HQ⟩ := hrel
            have hqj : q ≤ j := by rw [HQ.out]; exact Tsk.readyUp_len _ _ _
            by_cases hltj : j < m
            · have hltj' : (j : Int) < m := by omega
              obtain ⟨b1, p1, rfl, hb1, hc1⟩ := ints_rows2 HI1.out (by rw [List.length_range]; omega)
              have d1 := hc1 j (by rw [List.length_range]; exact hltj)
              rw [List.getElem_range] at d1
              have ejj : ((j : Int) != j) = false := by simp
              obtain ⟨bd, od, rfl, hbd, hdc⟩ := bools_at (HD.out.below (below_step HB2.out HB6.out)) (k := j) (by rw [← Hm.out]; exact hltj)
              have d2 := hdc j (by rw [← Hm.out]; exact hltj)
              obtain ⟨dj, Hdj⟩ : ∃ y, Hid (y = Tsk.dn done j) := ⟨_, Lib.hid rfl⟩
              rw [← Hdj.out] at d2
              have HRd : Hid (Tsk.rdB (Tsk.FL l) done j = !dj) := Lib.hid (by rw [Tsk.FL_rd, Hdj.out])
              clear hc1 hdc hb1 hbd
              cases dj
              · obtain ⟨hq1, hq2⟩ := Tsk.readyUp_at hltj (show Tsk.rdB (Tsk.FL l) done j = true by rw [HRd.out]; rfl)
                simp only [← Hrv.out, ← HQ.out] at hq1 hq2
                obtain ⟨b3, p3, rfl, hb3, hc3⟩ := ints_rows2 HI3.out (by omega)
                have d3 := hc3 q hq1
                rw [hq2] at d3
                have hqr : (q : Int) < rl := by have := Hrl.out; omega
                have hqr2 : decide (rl ≤ q) = false := decide_eq_false (by omega)
                clear hc3 hb3 hq1 hq2
                go_wp2
                go_round
                case rel => exact ⟨j + 1, by omega, by go_num, q + 1, by go_num, Lib.hid (by rw [Tsk.readyUp_succ, HRd.out, HQ.out]; simp)⟩
                case measure => simp [intOf]; omega
              · go_wp2
                go_round
                case rel => exact ⟨j + 1, by omega, by go_num, q, rfl, Lib.hid (by rw [Tsk.readyUp_succ, HRd.out, HQ.out]; simp)⟩
                case measure => simp [intOf]; omega
            · obtain rfl : m = j := by omega
              obtain rfl : q = rl := by rw [HQ.out, Hrl.out, Hrv.out]
              have eqq : ((q : Int) != q) = false := by simp
              have eqe : ((q : Int) == q) = true := by simp
              by_cases hm0 : m = 0
              · have hz : ((m : Int) == 0) = true := by simp; omega
                clear hm0
                go_wp2
                go_ret
                exact ⟨rfl, below_step HB2.out HB6.out⟩
              · have hz : ((m : Int) == 0) = false := by simp; omega
                obtain ⟨at', hat⟩ : ∃ q : Nat, raw % (m : Int) = (q : Int) := ⟨(raw % (m : Int)).toNat, by have := Int.emod_nonneg raw (by omega : (m : Int) ≠ 0); omega⟩
                have hatm : at' < m := by
                  have h1 := Int.emod_lt_of_pos raw (by omega : (0 : Int) < m)
                  omega
                have hatm' : (at' : Int) < m := by omega
                have HUA := Lib.hid (HU.out (at' : Int))
                have hal : at' < l.length := by rw [← Hn.out]; exact hatm
                obtain ⟨bd, od, rfl, hbd, hdc⟩ := bools_at (HD.out.below (below_step HB2.out HB6.out)) (k := at') (by rw [← Hm.out]; exact hatm)
                have HDC : Hid (∀ w', Below w6.heap.size w6 w' → ∀ i, i < m → w'.cell? ⟨bd, od + i, none⟩ = some (.bool (Tsk.dn done i)) ∧ bd < w'.heap.size) := Lib.hid fun w' hb i hi => by
                  have h1 := hdc i (by rw [← Hm.out]; exact hi)
                  exact ⟨by rw [hb.cell (p := ⟨bd, od + i, none⟩) hbd]; exact h1, Nat.lt_of_lt_of_le hbd hb.size⟩
                obtain ⟨da, Hda⟩ : ∃ y, Hid (y = Tsk.dn done at') := ⟨_, Lib.hid rfl⟩
                clear hbd hdc
                cases da
                · have hu := Tsk.FL_undo_no HVB.out HDl.out hal Hda.out.symm
                  rw [hu.1, hu.2] at HUA
                  clear hu
                  go_wp2_with fail
                  refine (HUA.out _ HT6.out (HD.out.below (below_step HB2.out HB6.out))).mono ?_
                  rintro e w7 ⟨o7, k7, rfl, hb, -⟩
                  have HB7 := Lib.hid (below_step HB6.out hb)
                  have d7 := (HDC.out w7 hb at' hatm).1
                  rw [← Hda.out] at d7
                  clear hb
                  go_wp2
                  go_ret
                  exact ⟨rfl, below_step HB2.out HB7.out⟩
                · have hu := Tsk.FL_undo_yes HVB.out HDl.out hal Hda.out.symm
                  obtain ⟨X, HX2⟩ : ∃ y, Hid (y = Tsk.undoV (Tsk.FL l) done at') := ⟨_, Lib.hid rfl⟩
                  rw [← HX2.out] at hu
                  have hXl : X.length = m := by rw [hu.2.1, ← Hn.out]
                  rw [hu.1, ← HX2.out, hXl] at HUA
                  have HXs := Lib.hid hu.2.2
                  have HXl := Lib.hid hXl
                  clear hu hXl
                  go_wp2_with fail
                  refine (HUA.out _ HT6.out (HD.out.below (below_step HB2.out HB6.out))).mono ?_
                  rintro e w7 ⟨o7, k7, rfl, hb, hi⟩
                  have HB7 := Lib.hid (below_step HB6.out hb)
                  have HB67 := Lib.hid hb
                  have d7 := (HDC.out w7 hb at' hatm).1
                  rw [← Hda.out] at d7
                  obtain ⟨bx, ox, rfl, hbx, hxc⟩ := bools_at hi (k := at') (by rw [HXl.out]; exact hatm)
                  have HXC := Lib.hid hxc
                  have emm : ((m : Int) == m) = true := by simp
                  clear hb hi hxc hbx
                  go_wp2
                  clear d7
                  go_loopw [21] (fun a wr => ∃ k : Nat, k ≤ m ∧ a = .int .i64 k ∧ Hid (Below w7.heap.size w7 wr)) (fun a _ => m - (intOf a).toNat)
                  case atStart => exact ⟨0, by omega, rfl, Lib.hid (Below.refl _ _)⟩
                  case round =>
                    obtain ⟨k, hk4, rfl, HBk⟩ := hrel
                    by_cases hltk : k < m
                    · have hltk' : (k : Int) < m := by omega
                      have q1 := (HDC.out w7 HB67.out k hltk).1
                      have q2 := HXC.out k (by rw [HXl.out]; exact hltk)
                      have l1 := lt_of_cell q1
                      have l2 := lt_of_cell q2
                      obtain ⟨dk, Hdk⟩ : ∃ x, Hid (x = Tsk.dn done k) := ⟨_, Lib.hid rfl⟩
                      obtain ⟨xk, Hxk⟩ : ∃ x, Hid (x = Tsk.dn X k) := ⟨_, Lib.hid rfl⟩
                      have hcase : (dk = false ∧ xk = false) ∨ (dk = true ∧ k = at' ∧ xk = false) ∨ (dk = true ∧ ¬ k = at' ∧ xk = true) := by
                        have h1 := HXs.out k (by rw [← Hn.out]; exact hltk)
                        rw [← Hdk.out, ← Hxk.out] at h1
                        by_cases e : k = at'
                        · have hx : xk = false := by
                            cases hh : xk
                            · rfl
                            · exact absurd e (h1.1 hh).2
                          cases hd : dk
                          · exact Or.inl ⟨rfl, hx⟩
                          · exact Or.inr (Or.inl ⟨rfl, e, hx⟩)
                        · cases hd : dk
                          · refine Or.inl ⟨rfl, ?_⟩
                            cases hh : xk
                            · rfl
                            · have := (h1.1 hh).1; rw [hd] at this; cases this
                          · exact Or.inr (Or.inr ⟨rfl, e, h1.2 ⟨hd, e⟩⟩)
                      rw [← Hdk.out] at q1
                      rw [← Hxk.out] at q2
                      have HQ2 : Hid (∀ X' : Grown wr, X'.w.cell? ⟨bd, od + k, none⟩ = some (.bool dk) ∧ X'.w.cell? ⟨bx, ox + k, none⟩ = some (.bool xk)) := Lib.hid fun X' => by
                        have hB := below_step HBk.out X'.below
                        exact ⟨by rw [hB.cell (p := ⟨bd, od + k, none⟩) l1, q1], by rw [hB.cell (p := ⟨bx, ox + k, none⟩) l2, q2]⟩
                      clear q1 q2 l1 l2
                      rcases hcase with ⟨rfl, rfl⟩ | ⟨rfl, hkt, rfl⟩ | ⟨rfl, hkt, rfl⟩
                      case' inr.inl => have ek : ((k : Int) != at') = false := by simp; omega
                      case' inr.inr => have ek : ((k : Int) != at') = true := by simp; omega
                      all_goals
                        try clear hkt
                        have p1 : ∀ X' : Grown wr, _ := fun X' => (HQ2.out X').1
                        have p2 : ∀ X' : Grown wr, _ := fun X' => (HQ2.out X').2
                        go_wp2_with fail
                        refine wp_region_grown (by kernel_rfl) (by kernel_rfl) ?_
                        repeat (go_big_quiet_step (fail))
                        refine wpQuiet_nil ?_
                        rintro _ ⟨X', rfl⟩
                        go_wp2
                        go_roundw
                        case rel => exact ⟨k + 1, by omega, by go_num, Lib.hid (HBk.out.trans (X'.below.mono HBk.out.size))⟩
                        case measure => simp [intOf]; omega
                    · obtain rfl : m = k := by omega
                      go_wp2
                      go_ret
                      exact ⟨rfl, below_step HB2.out (below_step HB7.out HBk.out)⟩

end Go.Proofs.Ytejgbfaampllaaa
