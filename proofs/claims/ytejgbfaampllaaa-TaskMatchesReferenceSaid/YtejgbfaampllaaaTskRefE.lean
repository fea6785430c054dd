/- The walk of the reference: what is left when a task is undone. -/
import Derived.Test.YtejgbfaampllaaaTskRefD
import Derived.Test.YtejgbfaampllaaaTskGone
namespace Go.Proofs.Ytejgbfaampllaaa
open Go.RowKit

set_option maxRecDepth 100000 in
set_option maxHeartbeats 4000000 in
theorem rundo_arg (l : List Tk) (hf : ∀ t ∈ l, tkFine t) (hn : l.length ≤ 9223372036854775807) (done : List Bool) (hg : ¬ (Tsk.validB l = true ∧ done.length = l.length)) (task : Int) (ao bo : Option Addr) (cap capb : Nat) (W : World) (hl : IsTasks W ao l) :
    Calls Try.prog 16 #[.slice ao l.length cap, .slice bo done.length capb, .int .i64 task] W (UndoPost l done task W) := by
  have HV := Lib.hid (rvalid_any l hf hn ao cap W hl)
  have HP := Lib.hid (undo_err (W := W) (show Tsk.undoE l done task = 1 by
    unfold Tsk.undoE
    rw [if_pos]
    cases hv : Tsk.validB l
    · rfl
    · have : ¬ done.length = l.length := fun e => hg ⟨hv, e⟩
      simp [this]) (by decide))
  obtain ⟨n, Hn⟩ : ∃ n, Hid (n = l.length) := ⟨_, Lib.hid rfl⟩
  obtain ⟨m, Hm⟩ : ∃ n, Hid (n = done.length) := ⟨_, Lib.hid rfl⟩
  rw [← Hn.out, ← Hm.out] at hg
  rw [← Hn.out] at HV
  rw [← Hn.out, ← Hm.out]
  have hcase : Tsk.validB l = false ∨ Tsk.validB l = true ∧ ((n : Int) != m) = true := by
    cases hv : Tsk.validB l
    · exact Or.inl rfl
    · refine Or.inr ⟨rfl, ?_⟩
      have : ¬ m = n := fun e => hg ⟨hv, e⟩
      simp; omega
  clear hf hl hg hn
  rcases hcase with h1 | ⟨h1, h2⟩
  all_goals
    rw [h1] at HV
    clear h1
    go_enter Try.func16, Try.ntmps16
    go_wp2_with fail
    refine HV.out.mono ?_
    rintro e w1 ⟨rfl, hb⟩
    have HB0 := Lib.hid hb
    clear hb
    go_wp2
    go_ret2
    exact HP.out _ HB0.out

set_option maxRecDepth 100000 in
set_option maxHeartbeats 8000000 in
theorem rundo_yes (l : List Tk) (hf : ∀ t ∈ l, tkFine t) (hv : Tsk.validB l = true) (done : List Bool) (hd : done.length = l.length) (task : Int) (ao bo : Option Addr) (cap capb : Nat) (W : World) (hl : IsTasks W ao l) (hb : IsBools W bo done) :
    Calls Try.prog 16 #[.slice ao l.length cap, .slice bo done.length capb, .int .i64 task] W (UndoPost l done task W) := by
  have h40 := (Tsk.validB_iff.1 hv).1
  have HV := Lib.hid (rvalid_any l hf (by omega) ao cap W hl)
  have HO := Lib.hid fun w' (h : IsTasks w' ao l) => rorder_any l hf (by omega) ao cap w' h
  rw [hv] at HV
  have hg1 : (!(Tsk.validB l && decide (done.length = l.length))) = false := by rw [hv, decide_eq_true hd]; rfl
  have HUE : Hid (Tsk.undoE l done task = if Tsk.orderE l ≠ 0 then Tsk.orderE l else if task < 0 ∨ (l.length : Int) ≤ task then 2 else if !(Tsk.closedB l done && Tsk.dn done task.toNat) then 5 else 0) := Lib.hid (by
    unfold Tsk.undoE
    rw [hg1]
    rfl)
  have HErr := Lib.hid fun E (h : Tsk.undoE l done task = E) (h0 : E ≠ 0) => undo_err (W := W) h h0
  obtain ⟨E, HE⟩ : ∃ n, Hid (n = Tsk.orderE l) := ⟨_, Lib.hid rfl⟩
  obtain ⟨n, Hn⟩ : ∃ n, Hid (n = l.length) := ⟨_, Lib.hid rfl⟩
  have HDl : Hid (done.length = n) := Lib.hid (by rw [hd, Hn.out])
  have HCl := Lib.hid fun W' (hb : IsBools W' bo done) (hl : IsTasks W' ao l) => rclosed_any l hv n Hn.out done HDl.out ao bo cap capb W' hl hb
  have HNA := Lib.hid fun (W' : World) (h : IsTasks W' ao l) k (hk : k < n) => needs_at hv Hn.out h hk
  have HL := Lib.hid hl
  have HD := Lib.hid hb
  unfold OrderPost at HO
  rw [hd]
  rw [← HE.out] at HO HUE
  rw [← Hn.out] at HV HO h40 HUE ⊢
  obtain ⟨i1, hi1, hy0, hy1, hy2⟩ := info_parts info_bool
  have hn' : (n : Int) ≤ 40 := by omega
  have hnn : ((n : Int) != n) = false := by simp
  clear hf hv hl hd hb hg1
  go_enter Try.func16, Try.ntmps16
  go_wp2_with fail
  refine HV.out.mono ?_
  rintro e w1 ⟨rfl, hb⟩
  have HB1 : Hid (Below W.heap.size W w1) := Lib.hid hb
  clear hb
  go_wp2_with fail
  refine (HO.out _ (HL.out.below HB1.out)).mono ?_
  rintro e w2 ⟨ao3, cap3, rfl, hb, -⟩
  have HB2 : Hid (Below W.heap.size W w2) := Lib.hid (below_step HB1.out hb)
  clear hb
  by_cases hE0 : E = 0
  · have HEz : Hid (Tsk.orderE l = 0) := Lib.hid (by rw [← HE.out]; exact hE0)
    subst hE0
    by_cases ht : task < 0 ∨ (n : Int) ≤ task
    · have HP := HErr.out 2 (by rw [HUE.out, if_neg (by simp), if_pos ht]) (by decide)
      have HP := Lib.hid HP
      have hcase : task < 0 ∨ ¬ task < 0 ∧ (n : Int) ≤ task := by omega
      clear ht
      rcases hcase with h | ⟨h, h2⟩
      all_goals
        go_wp2
        go_ret2
        exact HP.out _ HB2.out
    · obtain ⟨tk, rfl⟩ : ∃ k : Nat, task = k := ⟨task.toNat, by omega⟩
      have htn : tk < n := by omega
      have ht0 : ¬ ((tk : Nat) : Int) < 0 := by omega
      have ht1 : ¬ (n : Int) ≤ (tk : Nat) := by omega
      have ht2 : ((tk : Nat) : Int) < n := by omega
      have ht4 : decide (n ≤ tk) = false := decide_eq_false (by omega)
      have HU2 : Hid (Tsk.undoE l done tk = if !(Tsk.closedB l done && Tsk.dn done tk) then 5 else 0) := Lib.hid (by rw [HUE.out, if_neg (by simp), if_neg ht]; rfl)
      have htd : tk < done.length := by rw [HDl.out]; exact htn
      obtain ⟨bd, od, rfl, hbd, hdc⟩ := bools_at (HD.out.below HB2.out) htd
      have hdk := hdc tk htd
      have HC := Lib.hid (HCl.out w2 (HD.out.below HB2.out) (HL.out.below HB2.out))
      obtain ⟨cl, Hcl⟩ : ∃ x, Hid (x = Tsk.closedB l done) := ⟨_, Lib.hid rfl⟩
      obtain ⟨dk, Hdk⟩ : ∃ x, Hid (x = Tsk.dn done tk) := ⟨_, Lib.hid rfl⟩
      rw [← Hcl.out, ← Hdk.out] at HU2
      rw [← Hcl.out] at HC
      rw [← Hdk.out] at hdk
      have HDC := Lib.hid hdc
      have HBd := Lib.hid hbd
      clear ht hdc hbd
      cases cl
      · have HP := Lib.hid (HErr.out 5 (by rw [HU2.out]; rfl) (by decide))
        go_wp2_with fail
        refine HC.out.mono ?_
        rintro e _ ⟨rfl, rfl⟩
        go_wp2
        go_ret2
        exact HP.out _ HB2.out
      · cases dk
        · have HP := Lib.hid (HErr.out 5 (by rw [HU2.out]; rfl) (by decide))
          go_wp2_with fail
          refine HC.out.mono ?_
          rintro e _ ⟨rfl, rfl⟩
          go_wp2
          go_ret2
          exact HP.out _ HB2.out
        · have HZ : Hid (Tsk.undoE l done tk = 0) := Lib.hid (by rw [HU2.out]; rfl)
          have HKey : Hid (∀ (wo w5 : World), w5.ownsRow wo.heap.size 4 1 (.slice (some ⟨wo.heap.size, 0, none⟩) n n) n (madeCells (Value.bool false).cells (n * 1)).toList → wo.grownBy w5 none → Below wo.heap.size wo w5 ∧ Whole w5 wo.heap.size 4 (boolsC (List.replicate n false))) := Lib.hid fun wo w5 hown hgr => by
            refine ⟨⟨hgr.os, hgr.tape, hgr.output, hgr.size, fun k hk => hgr.block k hk (by simp)⟩, ?_⟩
            have e1 : (madeCells (Value.bool false).cells (n * 1)).toList = List.replicate n (.bool false) := by rw [Nat.mul_one]; exact toList_madeCells_one _ _
            rw [e1] at hown
            have hw := whole_of_full hown (by simp)
            have e2 : (List.replicate n (Value.bool false)).toArray = boolsC (List.replicate n false) := by simp [boolsC]
            rwa [e2] at hw
          go_wp2_with fail
          refine HC.out.mono ?_
          rintro e _ ⟨rfl, rfl⟩
          go_wp2_with (at_make; refine wpList_make_full _ rfl _ _ 23 rfl w2.heap.size 4 i1 (.bool false) 1 Try.underlying23 hi1 hy0 hy1 .i64 .i64 _ _ n rfl rfl rfl rfl (by rw [hy2]; omega) (by unfold maxLen; omega) (Nat.le_refl _) ?_; intro w5 hown hgr; have hk5 := HKey.out w2 w5 hown hgr; have HB5 := Lib.hid hk5.1; have HW5 := Lib.hid hk5.2; have y2 : w5.cell? ⟨w2.heap.size, tk, none⟩ = some (.bool (Tsk.dn (List.replicate n false) tk)) := (by rw [hk5.2.cell tk, boolsC_get (by simpa using htn)]); have y3 := hk5.2.frozen tk; clear hown hgr hk5)
          obtain ⟨g, Hg⟩ : ∃ x, Hid (x = w2.heap.size) := ⟨_, Lib.hid rfl⟩
          have HR6 : Hid (Below w2.heap.size w2 (w5.setCell ⟨g, tk, none⟩ (.bool true)) ∧ ∃ G, Tsk.GoneP l tk n 0 0 0 G ∧ Whole (w5.setCell ⟨g, tk, none⟩ (.bool true)) g 4 (boolsC G)) := Lib.hid (by
            rw [Hg.out]
            refine ⟨Below.setCell HB5.out (p := ⟨w2.heap.size, tk, none⟩) (Nat.le_refl _) _, _, Tsk.GoneP.start htn, ?_⟩
            have h2 := HW5.out.set tk (.bool true)
            rw [boolsC_set] at h2
            exact h2)
          rw [← Hg.out]
          clear y2 y3 hdk
          go_loopw [11] (fun a wr => ∃ r : Nat, r ≤ n ∧ a = .int .i64 r ∧ Hid (Below w2.heap.size w2 wr ∧ ∃ G, Tsk.GoneP l tk n r 0 0 G ∧ Whole wr g 4 (boolsC G))) (fun a _ => n - (intOf a).toNat)
          case atStart => exact ⟨0, by omega, rfl, HR6⟩
          case round =>
            obtain ⟨r, hr, rfl, HR⟩ := hrel
            by_cases hltr : r < n
            · have hltr' : (r : Int) < n := by omega
              go_wp2
              obtain ⟨wo, rfl⟩ : ∃ y, y = wr := ⟨_, rfl⟩
              go_loopw [12] (fun a wr => ∃ i : Nat, i ≤ n ∧ a = .int .i64 i ∧ Hid (Below w2.heap.size w2 wr ∧ ∃ G, Tsk.GoneP l tk n r i 0 G ∧ Whole wr g 4 (boolsC G))) (fun a _ => n - (intOf a).toNat)
              case atStart => exact ⟨0, by omega, rfl, HR⟩
              case round =>
                obtain ⟨i, hi, rfl, HQ⟩ := hrel
                by_cases hlti : i < n
                · have hlti' : (i : Int) < n := by omega
                  go_wp2
                  obtain ⟨wp, rfl⟩ : ∃ y, y = wr := ⟨_, rfl⟩
                  obtain ⟨m, Hm⟩ : ∃ m, Hid (m = (Tsk.needsAt l i).length) := ⟨_, Lib.hid rfl⟩
                  go_loopw [13] (fun a wr => ∃ k : Nat, k ≤ m ∧ a = .int .i64 k ∧ Hid (Below w2.heap.size w2 wr ∧ ∃ G, Tsk.GoneP l tk n r i k G ∧ Whole wr g 4 (boolsC G))) (fun a _ => m - (intOf a).toNat)
                  case atStart => exact ⟨0, by omega, rfl, HQ⟩
                  case round =>
                    obtain ⟨k, hk, rfl, HK⟩ := hrel
                    obtain ⟨bk, off, ao2, cap2, zs, rfl, hbk, -, -, -, c4, hin2, hzs, hzl, hz40⟩ := HNA.out wr (HL.out.below (below_step HB2.out HK.out.1)) i hlti
                    have hzm : zs.length = m := by rw [hzs, Hm.out]
                    rw [hzm] at c4 hz40
                    by_cases hltk : k < m
                    · have hltk' : (k : Int) < m := by omega
                      have hkz : k < zs.length := by omega
                      obtain ⟨b4, o4, rfl, hb4, d4⟩ := ints_at hin2 hkz
                      obtain ⟨y, Hy⟩ : ∃ y : Nat, Hid (y = zs[k]) := ⟨_, Lib.hid rfl⟩
                      rw [← Hy.out] at d4
                      have hyn : y < n := by rw [Hy.out]; exact hzl _ (List.getElem_mem _)
                      have hyn' : (y : Int) < n := by omega
                      have HYk : Hid ((Tsk.needsAt l i)[k]? = some y) := Lib.hid (by rw [← hzs, List.getElem?_eq_getElem hkz, Hy.out])
                      obtain ⟨hbw, G, hG, hW⟩ := HK.out
                      have g1 : wr.cell? ⟨g, i, none⟩ = some (.bool (Tsk.dn G i)) := by rw [hW.cell i, boolsC_get (by rw [hG.len]; exact hlti)]
                      have g2 : wr.cell? ⟨g, y, none⟩ = some (.bool (Tsk.dn G y)) := by rw [hW.cell y, boolsC_get (by rw [hG.len]; exact hyn)]
                      have g3 := hW.frozen i
                      have HNext : Hid (∀ v, v = (Tsk.dn G i || Tsk.dn G y) → Whole (wr.setCell ⟨g, i, none⟩ (.bool v)) g 4 (boolsC (G.set i (Tsk.dn G i || Tsk.dn G y)))) := Lib.hid fun v hv => by
                        have h2 := hW.set i (.bool v)
                        rw [boolsC_set] at h2
                        rw [← hv]
                        exact h2
                      have HG := Lib.hid (hG.step hlti HYk.out)
                      have HBw : Hid (∀ v, Below w2.heap.size w2 (wr.setCell ⟨g, i, none⟩ v)) := Lib.hid fun v => Below.setCell hbw (p := ⟨g, i, none⟩) (by show _ ≤ g; rw [Hg.out]; exact Nat.le_refl _) _
                      clear hin2 hzs hzl hb4 hbk hbw hG hW Hy hkz hzm
                      obtain ⟨gi, Hgi⟩ : ∃ x, Hid (x = Tsk.dn G i) := ⟨_, Lib.hid rfl⟩
                      obtain ⟨gy, Hgy⟩ : ∃ x, Hid (x = Tsk.dn G y) := ⟨_, Lib.hid rfl⟩
                      rw [← Hgi.out] at g1
                      rw [← Hgy.out] at g2
                      cases gi
                      · go_wp2
                        go_roundw
                        case rel => exact ⟨k + 1, by omega, by go_num, Lib.hid ⟨HBw.out _, _, HG.out, HNext.out gy (by rw [← Hgi.out, ← Hgy.out]; simp)⟩⟩
                        case measure => simp [intOf]; omega
                      · go_wp2
                        go_roundw
                        case rel => exact ⟨k + 1, by omega, by go_num, Lib.hid ⟨HBw.out _, _, HG.out, HNext.out true (by rw [← Hgi.out]; rfl)⟩⟩
                        case measure => simp [intOf]; omega
                    · have HEnd : Hid (∃ G, Tsk.GoneP l tk n r (i + 1) 0 G ∧ Whole wr g 4 (boolsC G)) := Lib.hid (by
                        obtain ⟨_, G, hG, hW⟩ := HK.out
                        refine ⟨G, ?_, hW⟩
                        obtain rfl : k = m := by omega
                        rw [Hm.out] at hG
                        exact hG.next)
                      obtain rfl : m = k := by omega
                      clear hin2 hzs hzl hbk hzm
                      go_wp2
                      go_roundw
                      case rel => exact ⟨i + 1, by omega, by go_num, Lib.hid ⟨HK.out.1, HEnd.out⟩⟩
                      case measure => simp [intOf]; omega
                · have HEnd : Hid (∃ G, Tsk.GoneP l tk n (r + 1) 0 0 G ∧ Whole wr g 4 (boolsC G)) := Lib.hid (by
                    obtain ⟨_, G, hG, hW⟩ := HQ.out
                    refine ⟨G, ?_, hW⟩
                    obtain rfl : i = n := by omega
                    exact hG.round Hn.out)
                  obtain rfl : n = i := by omega
                  go_wp2
                  go_roundw
                  case rel => exact ⟨r + 1, by omega, by go_num, Lib.hid ⟨HQ.out.1, HEnd.out⟩⟩
                  case measure => simp [intOf]; omega
            · obtain rfl : n = r := by omega
              obtain ⟨wo, rfl⟩ : ∃ y, y = wr := ⟨_, rfl⟩
              obtain ⟨hbw, G, hG, hW⟩ := HR.out
              have HG := Lib.hid hG
              have HW := Lib.hid hW
              have HBo := Lib.hid hbw
              have hs2 := hbw.size
              clear hbw hG hW
              go_wp2_with (at_make; refine wpList_make_full _ rfl _ _ 23 rfl wo.heap.size 4 i1 (.bool false) 1 Try.underlying23 hi1 hy0 hy1 .i64 .i64 _ _ n rfl rfl rfl rfl (by rw [hy2]; omega) (by unfold maxLen; omega) (Nat.le_refl _) ?_; intro w6 hown hgr; have hk5 := HKey.out wo w6 hown hgr; have HB6 := Lib.hid hk5.1; have HW6 := Lib.hid hk5.2; clear hown hgr hk5)
              obtain ⟨f, Hf⟩ : ∃ f : Nat → Bool, Hid (f = fun x => Tsk.dn done x && !(Tsk.dn G x)) := ⟨_, Lib.hid rfl⟩
              obtain ⟨g2, Hg2⟩ : ∃ x, Hid (x = wo.heap.size) := ⟨_, Lib.hid rfl⟩
              rw [← Hg2.out] at HW6 ⊢
              go_loopw [15] (fun a wr => ∃ k : Nat, k ≤ n ∧ a = .int .i64 k ∧ Hid (Below wo.heap.size wo wr ∧ Whole wr g2 4 (boolsC (Tsk.outUp n k f)))) (fun a _ => n - (intOf a).toNat)
              case atStart => exact ⟨0, by omega, rfl, Lib.hid ⟨HB6.out, by rw [Tsk.outUp_zero]; exact HW6.out⟩⟩
              case round =>
                obtain ⟨k, hk, rfl, HK⟩ := hrel
                by_cases hlt : k < n
                · have hlt' : (k : Int) < n := by omega
                  have hgW : Whole wr g 4 (boolsC G) := (HK.out.1.block g HW.out.lt).trans HW.out
                  have g1 : wr.cell? ⟨g, k, none⟩ = some (.bool (Tsk.dn G k)) := by rw [hgW.cell k, boolsC_get (by rw [HG.out.len]; exact hlt)]
                  have hdw := (bools_at (HD.out.below (below_step HB2.out (below_step HBo.out HK.out.1))) htd)
                  obtain ⟨bd2, od2, he2, _, hdc⟩ := hdw
                  simp only [Option.some.injEq, Addr.mk.injEq, and_true] at he2
                  obtain ⟨rfl, rfl⟩ := he2
                  have d1 := hdc k (by rw [HDl.out]; exact hlt)
                  have g3 : wr.cell? ⟨g2, k, none⟩ = some (.bool (Tsk.dn (Tsk.outUp n k f) k)) := by rw [HK.out.2.cell k, boolsC_get (by rw [Tsk.outUp_len]; exact hlt)]
                  have g4 := HK.out.2.frozen k
                  have HNext : Hid (∀ v, v = f k → Whole (wr.setCell ⟨g2, k, none⟩ (.bool v)) g2 4 (boolsC (Tsk.outUp n (k + 1) f))) := Lib.hid fun v hv => by
                    have h2 := HK.out.2.set k (.bool v)
                    rw [boolsC_set, hv, Tsk.outUp_succ] at h2
                    rw [hv]
                    exact h2
                  have HBw : Hid (∀ v, Below wo.heap.size wo (wr.setCell ⟨g2, k, none⟩ v)) := Lib.hid fun v => Below.setCell HK.out.1 (p := ⟨g2, k, none⟩) (by show _ ≤ g2; rw [Hg2.out]; exact Nat.le_refl _) _
                  obtain ⟨dk, Hdk⟩ : ∃ x, Hid (x = Tsk.dn done k) := ⟨_, Lib.hid rfl⟩
                  obtain ⟨gk, Hgk⟩ : ∃ x, Hid (x = Tsk.dn G k) := ⟨_, Lib.hid rfl⟩
                  rw [← Hdk.out] at d1
                  rw [← Hgk.out] at g1
                  have HFk : Hid (f k = (dk && !gk)) := Lib.hid (by rw [Hf.out, Hdk.out, Hgk.out])
                  clear hdc hgW
                  cases dk
                  · go_wp2
                    go_roundw
                    case rel => exact ⟨k + 1, by omega, by go_num, Lib.hid ⟨HBw.out _, HNext.out false (by rw [HFk.out]; rfl)⟩⟩
                    case measure => simp [intOf]; omega
                  · go_wp2
                    go_roundw
                    case rel => exact ⟨k + 1, by omega, by go_num, Lib.hid ⟨HBw.out _, HNext.out (!gk) (by rw [HFk.out]; rfl)⟩⟩
                    case measure => simp [intOf]; omega
                · have HP : Hid (UndoPost l done tk W (.returned (.tuple #[.slice (some ⟨g2, 0, none⟩) n n, .int .i64 0])) wr) := Lib.hid (by
                    obtain rfl : k = n := by omega
                    have h1 := Tsk.gone_undo Hn.out HZ.out HG.out
                    rw [← Hf.out] at h1
                    have h2 := HK.out.2
                    have h3 : (Tsk.undoV l done tk).length = k := by rw [← h1, Tsk.outUp_len]
                    rw [h1] at h2
                    unfold UndoPost
                    rw [HZ.out, h3]
                    exact ⟨some ⟨g2, 0, none⟩, k, rfl, below_step HB2.out (below_step HBo.out HK.out.1), isBools_whole _ h2⟩)
                  obtain rfl : n = k := by omega
                  go_wp2
                  go_ret2
                  exact HP.out
  · have hE : (E != 0) = true := by simpa using hE0
    have HP := Lib.hid (HErr.out E (by rw [HUE.out, if_pos hE0]) hE0)
    clear hE0
    go_wp2
    go_ret2
    exact HP.out _ HB2.out

theorem rundo_any (l : List Tk) (hf : ∀ t ∈ l, tkFine t) (hn : l.length ≤ 9223372036854775807) (done : List Bool) (task : Int) (ao bo : Option Addr) (cap capb : Nat) (W : World) (hl : IsTasks W ao l) (hb : IsBools W bo done) :
    Calls Try.prog 16 #[.slice ao l.length cap, .slice bo done.length capb, .int .i64 task] W (UndoPost l done task W) := by
  by_cases hg : Tsk.validB l = true ∧ done.length = l.length
  · exact rundo_yes l hf hg.1 done hg.2 task ao bo cap capb W hl hb
  · exact rundo_arg l hf hn done hg task ao bo cap capb W hl

end Go.Proofs.Ytejgbfaampllaaa
