/- The walk: what is left when a task is undone. -/
import Derived.Test.YtejgbfaampllaaaTskReady
import Derived.Test.YtejgbfaampllaaaQuietTail
import Derived.Laws.CopyRow
namespace Go.Proofs.Ytejgbfaampllaaa
open Go.RowKit

def boolsC (bs : List Bool) : Array Value := (bs.map Value.bool).toArray
theorem boolsC_get {bs : List Bool} {i : Nat} (h : i < bs.length) : (boolsC bs)[i]? = some (.bool (Tsk.dn bs i)) := by
  rw [Tsk.dn_get h]
  simp [boolsC, h]
theorem boolsC_set (bs : List Bool) (i : Nat) (x : Bool) : (boolsC bs).setIfInBounds i (.bool x) = boolsC (bs.set i x) := by
  simp [boolsC, List.map_set]
theorem info_bool : (Try.prog.info? 4).map (fun i => (i.zero, i.size, i.bytes)) = some (some (.bool false), 1, 1) := by kernel_rfl
theorem info_bool1 : (Try.prog.info? 4).map (·.size) = some 1 := by kernel_rfl

def UndoPost (l : List Tk) (done : List Bool) (task : Int) (W : World) (e : Ending) (w' : World) : Prop :=
  ∃ ao cap, e = .returned (.tuple #[.slice ao (Tsk.undoV l done task).length cap, .int .i64 (Tsk.undoE l done task)]) ∧ Below W.heap.size W w' ∧ IsBools w' ao (Tsk.undoV l done task)
theorem undo_err {l : List Tk} {done : List Bool} {task : Int} {W : World} {E : Int} (h : Tsk.undoE l done task = E) (h0 : E ≠ 0) : ∀ w', Below W.heap.size W w' → UndoPost l done task W (.returned (.tuple #[.slice none 0 0, .int .i64 E])) w' := by
  intro w' hb
  have h2 : Tsk.undoV l done task = [] := by unfold Tsk.undoV; rw [if_neg (by rw [h]; exact h0)]
  unfold UndoPost
  rw [h2, h]
  exact ⟨none, 0, rfl, hb, Or.inl rfl⟩
/-- The new list and its variable, and what was copied. -/
theorem undo_copy {w5 : World} {g n bd od capb : Nat} {done : List Bool} (hn : done.length = n) (hg : g < w5.heap.size) (hw : Whole w5 g 4 (List.replicate n (Value.bool false)).toArray)
    (hd : ∀ k, (h : k < done.length) → w5.cell? ⟨bd, od + k, none⟩ = some (.bool done[k])) (hbd : bd < w5.heap.size) :
    ∃ W6, (Builtin.copy_ #[23, 23] 3 #[.slice (some ⟨g, 0, none⟩) n n, .slice (some ⟨bd, od, none⟩) n capb]).run Try.prog (w5.alloc (.cells #[.slice (some ⟨g, 0, none⟩) n n] 23)) = .ok (.int .i64 n) W6 ∧
      Whole W6 g 4 (boolsC done) ∧ Whole W6 w5.heap.size 23 #[.slice (some ⟨g, 0, none⟩) n n] ∧ (∀ B, B ≤ g → B ≤ w5.heap.size → Below B w5 W6) := by
  have hw' := hw.alloc (.cells #[.slice (some ⟨g, 0, none⟩) n n] 23)
  have hr := run_copy_row (P := Try.prog) (w5.alloc (.cells #[.slice (some ⟨g, 0, none⟩) n n] 23)) 23 23 3 4 g 0 n n ⟨bd, od, none⟩ n capb (List.replicate n (Value.bool false)).toArray 4 (done.map Value.bool) Try.underlying23 info_bool1 hw' (by simp [hn]) (fun j v hj => by
    have e : (⟨bd, od, none⟩ : Addr).add j = ⟨bd, od + j, none⟩ := by unfold Addr.add; split <;> simp_all
    have hjl : j < done.length := by have := (List.getElem?_eq_some_iff.1 hj).1; simpa using this
    rw [e, cell_alloc, if_neg (by omega), hd j hjl]
    simp [hjl] at hj
    rw [hj]) (by simp [hn]) (by intro v hv; obtain ⟨b, _, rfl⟩ := List.mem_map.1 hv; rfl)
  have hl : (done.map Value.bool).length = n := by simp [hn]
  have e1 : ((List.replicate n (Value.bool false)).toArray.toList.take 0 ++ done.map Value.bool ++ (List.replicate n (Value.bool false)).toArray.toList.drop (0 + (done.map Value.bool).length)).toArray = boolsC done := by
    rw [hl]
    simp [boolsC]
  rw [e1, hl] at hr
  refine ⟨_, hr, setRow_heap _ g _ _ _ _ hw', (setRow_other _ g w5.heap.size _ (by omega)).trans (Whole.new _ _ _), fun B h1 h2 => ?_⟩
  exact ⟨rfl, rfl, rfl, by simp, fun k hk => (setRow_other _ g k _ (by omega)).trans (Below.heap_alloc _ _ k (by omega))⟩

set_option maxRecDepth 100000 in
set_option maxHeartbeats 4000000 in
theorem undo_arg (l : List Tk) (hf : ∀ t ∈ l, tkFine t) (hn : l.length ≤ 9223372036854775807) (done : List Bool) (hg : ¬ (Tsk.validB l = true ∧ done.length = l.length)) (task : Int) (ao bo : Option Addr) (cap capb : Nat) (W : World) (hl : IsTasks W ao l) (hb : IsBools W bo done) :
    Calls Try.prog 15 #[.slice ao l.length cap, .slice bo done.length capb, .int .i64 task] W (UndoPost l done task W) := by
  have HV := Lib.hid fun w' (h : IsTasks w' ao l) => valid_any l hf hn ao cap w' h
  have HL := Lib.hid hl
  have HP := Lib.hid (undo_err (W := W) (show Tsk.undoE l done task = 1 by
    unfold Tsk.undoE
    rw [if_pos]
    cases hv : Tsk.validB l
    · rfl
    · have : ¬ done.length = l.length := fun e => hg ⟨hv, e⟩
      simp [this]) (by decide))
  obtain ⟨n, Hn⟩ : ∃ n, Hid (n = l.length) := ⟨_, Lib.hid rfl⟩
  obtain ⟨m, Hm⟩ : ∃ n, Hid (n = done.length) := ⟨_, Lib.hid rfl⟩
  rw [← Hn.out, ← Hm.out] at hg
  rw [← Hn.out] at HV
  rw [← Hn.out, ← Hm.out]
  have hcase : Tsk.validB l = false ∨ Tsk.validB l = true ∧ ((m : Int) != n) = true := by
    cases hv : Tsk.validB l
    · exact Or.inl rfl
    · refine Or.inr ⟨rfl, ?_⟩
      have : ¬ m = n := fun e => hg ⟨hv, e⟩
      simp; omega
  clear hf hl hb hg hn
  rcases hcase with h1 | ⟨h1, h2⟩
  all_goals
    rw [h1] at HV
    clear h1
    go_enter Try.func15, Try.ntmps15
    go_wp2_with fail
    refine (HV.out _ (HL.out.below ((Below.refl _ _).alloc (Nat.le_refl _) _))).mono ?_
    rintro e w1 ⟨rfl, hb⟩
    have HB0 : Hid (Below W.heap.size W w1) := Lib.hid (((Below.refl _ _).alloc (Nat.le_refl _) _).trans (hb.mono (by rw [size_alloc]; omega)))
    have q0 : w1.cell? ⟨W.heap.size, 0, none⟩ = some (.slice bo m capb) := by
      rw [hb.cell (p := ⟨W.heap.size, 0, none⟩) (by rw [size_alloc]; show W.heap.size < _; omega), cell_alloc, if_pos rfl]; rfl
    clear hb
    go_wp2
    go_ret2
    exact HP.out _ HB0.out

set_option maxRecDepth 100000 in
set_option maxHeartbeats 8000000 in
theorem undo_yes (l : List Tk) (hf : ∀ t ∈ l, tkFine t) (hv : Tsk.validB l = true) (done : List Bool) (hd : done.length = l.length) (task : Int) (ao bo : Option Addr) (cap capb : Nat) (W : World) (hl : IsTasks W ao l) (hb : IsBools W bo done) :
    Calls Try.prog 15 #[.slice ao l.length cap, .slice bo done.length capb, .int .i64 task] W (UndoPost l done task W) := by
  have h40 := (Tsk.validB_iff.1 hv).1
  have HV := Lib.hid fun w' (h : IsTasks w' ao l) => valid_any l hf (by omega) ao cap w' h
  have HO := Lib.hid fun w' (h : IsTasks w' ao l) => order_any l hf (by omega) ao cap w' h
  rw [hv] at HV
  have hg1 : (!(Tsk.validB l && decide (done.length = l.length))) = false := by rw [hv, decide_eq_true hd]; rfl
  have HUE : Hid (Tsk.undoE l done task = if Tsk.orderE l ≠ 0 then Tsk.orderE l else if task < 0 ∨ (l.length : Int) ≤ task then 2 else if !(Tsk.closedB l done && Tsk.dn done task.toNat) then 5 else 0) := Lib.hid (by
    unfold Tsk.undoE
    rw [hg1]
    rfl)
  have HErr := Lib.hid fun E (h : Tsk.undoE l done task = E) (h0 : E ≠ 0) => undo_err (W := W) h h0
  obtain ⟨E, HE⟩ : ∃ n, Hid (n = Tsk.orderE l) := ⟨_, Lib.hid rfl⟩
  obtain ⟨n, Hn⟩ : ∃ n, Hid (n = l.length) := ⟨_, Lib.hid rfl⟩
  have HDl : Hid (done.length = n) := Lib.hid (by rw [hd, Hn.out])
  have HVal := Lib.hid (Tsk.validB_iff.1 hv).2
  have HF := Lib.hid hf
  have HL := Lib.hid hl
  have HD := Lib.hid hb
  have HEc := Lib.hid (orderE_cases l)
  unfold OrderPost at HO
  rw [hd]
  rw [← HE.out] at HO HUE HEc
  rw [← Hn.out] at HV HO h40 HUE ⊢
  have HEnt1 : Hid (∀ (c : Addr) x w, (callFunc 28 #[.int .i64 x, .pointer (some c)]).run Try.prog w = .ok (.enter 28 #[.int .i64 x, .pointer (some c)]) w) := Lib.hid fun c x w => by kernel_rfl
  have HEnt2 : Hid (∀ (c : Addr) x w, (callFunc 29 #[.int .i64 x, .pointer (some c)]).run Try.prog w = .ok (.enter 29 #[.int .i64 x, .pointer (some c)]) w) := Lib.hid fun c x w => by kernel_rfl
  obtain ⟨i1, hi1, hy0, hy1, hy2⟩ := info_parts info_bool
  have hn' : (n : Int) ≤ 40 := by omega
  have hnn : ((n : Int) != n) = false := by simp
  have HVB := Lib.hid hv
  clear hf hv hl hd hb hg1
  go_enter Try.func15, Try.ntmps15
  go_wp2_with fail
  refine (HV.out _ (HL.out.below ((Below.refl _ _).alloc (Nat.le_refl _) _))).mono ?_
  rintro e w1 ⟨rfl, hb⟩
  have HB1 : Hid (Below W.heap.size W w1) := Lib.hid (((Below.refl _ _).alloc (Nat.le_refl _) _).trans (hb.mono (by rw [size_alloc]; omega)))
  have HW1 : Hid (Whole w1 W.heap.size 23 #[.slice bo n capb]) := Lib.hid ((hb.block W.heap.size (by rw [size_alloc]; omega)).trans (Whole.new W _ _))
  have q0 : w1.cell? ⟨W.heap.size, 0, none⟩ = some (.slice bo n capb) := HW1.out.cell 0
  clear hb
  go_wp2_with fail
  refine (HO.out _ (HL.out.below HB1.out)).mono ?_
  rintro e w2 ⟨ao3, cap3, rfl, hb, hi⟩
  have HB2 : Hid (Below W.heap.size W w2) := Lib.hid (below_step HB1.out hb)
  have HW2 : Hid (Whole w2 W.heap.size 23 #[.slice bo n capb]) := Lib.hid ((hb.block W.heap.size HW1.out.lt).trans HW1.out)
  have HI2 := Lib.hid hi
  clear hb hi q0
  by_cases hE0 : E = 0
  · have HOZ := Lib.hid (orderE_zero (by rw [← HE.out]; exact hE0))
    subst hE0
    obtain ⟨ord, HOrd⟩ : ∃ x, Hid (x = Tsk.orderV l) := ⟨_, Lib.hid rfl⟩
    have HOrdL : Hid (ord = Tsk.orderL l) := Lib.hid (by rw [HOrd.out, HOZ.out.2.2])
    have HOl : Hid (ord.length = n) := Lib.hid (by rw [HOrdL.out, HOZ.out.2.1, Hn.out])
    rw [← HOrd.out] at HI2 ⊢
    rw [HOl.out]
    by_cases ht : task < 0 ∨ (n : Int) ≤ task
    · have HP := HErr.out 2 (by rw [HUE.out, if_neg (by simp), if_pos ht]) (by decide)
      have HP := Lib.hid HP
      have hcase : task < 0 ∨ ¬ task < 0 ∧ (n : Int) ≤ task := by omega
      clear ht
      rcases hcase with h | ⟨h, h2⟩
      all_goals
        go_wp2
        go_ret2
        exact HP.out _ HB2.out
    · obtain ⟨tk, rfl⟩ : ∃ k : Nat, task = k := ⟨task.toNat, by omega⟩
      have htn : tk < n := by omega
      have ht0 : ¬ ((tk : Nat) : Int) < 0 := by omega
      have ht1 : ¬ (n : Int) ≤ (tk : Nat) := by omega
      have ht2 : ((tk : Nat) : Int) < n := by omega
      have ht4 : decide (n ≤ tk) = false := decide_eq_false (by omega)
      have HU2 : Hid (Tsk.undoE l done tk = if !(Tsk.closedB l done && Tsk.dn done tk) then 5 else 0) := Lib.hid (by rw [HUE.out, if_neg (by simp), if_neg ht]; rfl)
      have htd : tk < done.length := by rw [HDl.out]; exact htn
      obtain ⟨bd, od, rfl, _, _⟩ := HD.out.at htd
      clear ht
      go_wp2
      go_loopw [45] (fun i wr => ∃ k : Nat, k ≤ n ∧ i = .int .i64 k ∧ Hid (Below w2.heap.size w2 wr) ∧ Hid (Tsk.closedUp l done k)) (fun i _ => n - (intOf i).toNat)
      case atStart => exact ⟨0, by omega, rfl, Lib.hid (Below.refl _ _), Lib.hid fun i h => by omega⟩
      case round =>
        obtain ⟨k, hk, rfl, HBr, HCl⟩ := hrel
        have HBW := Lib.hid (below_step HB2.out HBr.out)
        have HWr : Hid (Whole wr W.heap.size 23 #[.slice (some ⟨bd, od, none⟩) n capb]) := Lib.hid ((HBr.out.block _ HW2.out.lt).trans HW2.out)
        by_cases hlt : k < n
        · have hlt' : (k : Int) < n := by omega
          have hkl : k < l.length := by rw [← Hn.out]; exact hlt
          have hkd : k < done.length := by rw [HDl.out]; exact hlt
          obtain ⟨bk, off, rfl, hbk, hact⟩ := (HL.out.below HBW.out).at hkl
          obtain ⟨t, Ht⟩ : ∃ t, Hid (t = l[k]) := ⟨_, Lib.hid rfl⟩
          rw [← Ht.out] at hact
          have HFin : Hid (tkFine t) := Lib.hid (by rw [Ht.out]; exact HF.out _ (List.getElem_mem _))
          have HNe : Hid (Tsk.needsAt l k = Tsk.needs t) := Lib.hid (by rw [Tsk.needsAt_get hkl, Ht.out])
          have HFt : Hid (Tsk.fineTB n t = true) := Lib.hid (by rw [Hn.out, Ht.out]; exact HVal.out _ (List.getElem_mem _))
          have HAN := Lib.hid (Tsk.all_needs HNe.out (Tsk.dn done))
          obtain ⟨hh, sk, ba, af⟩ := t
          obtain ⟨c1, c2, c3, ao2, cap2, c4, hin⟩ := hact
          simp only at c1 c2 c3 c4 hin
          obtain ⟨mm, Hm⟩ : ∃ m, Hid (m = af.length) := ⟨_, Lib.hid rfl⟩
          rw [← Hm.out] at c4
          have HIn := Lib.hid hin
          obtain ⟨b5, o5, he5, hbd, hdk⟩ := (HD.out.below HBW.out).at hkd
          simp only [Option.some.injEq, Addr.mk.injEq, and_true] at he5
          obtain ⟨rfl, rfl⟩ := he5
          obtain ⟨dk, Hdk⟩ : ∃ x, Hid (x = done[k]) := ⟨_, Lib.hid rfl⟩
          rw [← Hdk.out] at hdk
          have HDk : Hid (Tsk.dn done k = dk) := Lib.hid (by rw [Tsk.dn_get hkd, Hdk.out])
          have v1 : wr.cell? ⟨W.heap.size, 0, none⟩ = some (.slice (some ⟨bd, od, none⟩) n capb) := HWr.out.cell 0
          have hbl := HWr.out.lt
          clear hin
          cases dk
          · go_wp2
            go_roundw
            case rel => exact ⟨k + 1, by omega, by go_num, Lib.hid (HBr.out.alloc HBr.out.size _), Lib.hid fun i h1 h2 => by
              by_cases e : i = k
              · subst e; rw [HDk.out] at h2; cases h2
              · exact HCl.out i (by omega) h2⟩
            case measure => simp [intOf]; omega
          · go_wp2_with fail
            obtain ⟨W8, HW8⟩ : ∃ x, Hid (x = wr.alloc (.cells #[.int .i64 hh, .int .i64 sk, .bool ba, .slice ao2 mm cap2] 41)) := ⟨_, Lib.hid rfl⟩
            have hbl8 : Below wr.heap.size wr W8 := by rw [HW8.out]; exact (Below.refl _ _).alloc (Nat.le_refl _) _
            have HB8 : Hid (Below w2.heap.size w2 W8) := Lib.hid (below_step HBr.out hbl8)
            have HIn8 : Hid (IsInts W8 ao2 af) := Lib.hid (HIn.out.below hbl8)
            have v2 : W8.cell? ⟨W.heap.size, 0, none⟩ = some (.slice (some ⟨bd, od, none⟩) n capb) := by rw [hbl8.cell (p := ⟨W.heap.size, 0, none⟩) hbl]; exact v1
            rw [← HW8.out]
            clear c1 c2 c3 c4 v1 hbl hbl8 hdk
            obtain ⟨rdy, Hrdy⟩ : ∃ r, Hid (r = af.all fun x => Tsk.dn done x.toNat) := ⟨_, Lib.hid rfl⟩
            have HAll := Lib.hid (all_any 28 ⟨W.heap.size, 0, none⟩ (HEnt1.out _) af HFin.out.1 ao2 cap2 (fun x => Tsk.dn done x.toNat) W8 HIn8.out (fun x hx => by
              obtain ⟨q, hq, rfl⟩ := List.getElem_of_mem hx
              have h1 := Tsk.stepB_iff.1 (Tsk.fineB_iff.1 (Tsk.fineTB_iff.1 HFt.out).2 q hq)
              simp only at h1
              rw [Tsk.getD_get hq] at h1
              obtain ⟨y, hy⟩ : ∃ y : Nat, af[q] = (y : Int) := ⟨af[q].toNat, by omega⟩
              rw [hy] at h1 ⊢
              rw [Int.toNat_natCast]
              have hyd : y < done.length := by rw [HDl.out]; omega
              obtain ⟨b6, o6, he6, _, h6⟩ := (HD.out.below (below_step HB2.out HB8.out)).at hyd
              simp only [Option.some.injEq, Addr.mk.injEq, and_true] at he6
              obtain ⟨rfl, rfl⟩ := he6
              rw [Tsk.dn_get hyd]
              exact ask_undo1 y W.heap.size bd od n capb _ W8 v2 (by omega) h6))
            rw [← Hrdy.out, ← Hm.out] at HAll
            have HNd : Hid (Tsk.needsDone l done k = rdy) := Lib.hid (by
              rw [Hrdy.out]
              unfold Tsk.needsDone
              rw [HAN.out])
            cases rdy
            · have HC : Hid (Tsk.closedB l done = false) := Lib.hid (by
                cases h : Tsk.closedB l done
                · rfl
                · have := Tsk.closedB_iff.1 h k hkl HDk.out
                  rw [HNd.out] at this; cases this)
              have HP := Lib.hid (HErr.out 5 (by rw [HU2.out, HC.out]; rfl) (by decide))
              refine HAll.out.mono ?_
              rintro e _ ⟨rfl, rfl⟩
              go_wp2
              go_ret2
              exact HP.out _ (below_step HB2.out HB8.out)
            · refine HAll.out.mono ?_
              rintro e _ ⟨rfl, rfl⟩
              go_wp2
              go_roundw
              case rel => exact ⟨k + 1, by omega, by go_num, HB8, Lib.hid fun i h1 h2 => by
                by_cases e : i = k
                · subst e; exact HNd.out
                · exact HCl.out i (by omega) h2⟩
              case measure => simp [intOf]; omega
        · obtain rfl : n = k := by omega
          have HC : Hid (Tsk.closedB l done = true) := Lib.hid (Tsk.closedB_iff.2 (by rw [← Hn.out]; exact HCl.out))
          have v1 : wr.cell? ⟨W.heap.size, 0, none⟩ = some (.slice (some ⟨bd, od, none⟩) n capb) := HWr.out.cell 0
          obtain ⟨b5, o5, he5, hbd, hdk⟩ := (HD.out.below HBW.out).at htd
          simp only [Option.some.injEq, Addr.mk.injEq, and_true] at he5
          obtain ⟨rfl, rfl⟩ := he5
          obtain ⟨dk, Hdk⟩ : ∃ x, Hid (x = done[tk]) := ⟨_, Lib.hid rfl⟩
          rw [← Hdk.out] at hdk
          have HDk : Hid (Tsk.dn done tk = dk) := Lib.hid (by rw [Tsk.dn_get htd, Hdk.out])
          cases dk
          · have HP := Lib.hid (HErr.out 5 (by rw [HU2.out, HC.out, HDk.out]; rfl) (by decide))
            go_wp2
            go_ret2
            exact HP.out _ HBW.out
          · have HZ : Hid (Tsk.undoE l done tk = 0) := Lib.hid (by rw [HU2.out, HC.out, HDk.out]; rfl)
            obtain ⟨wo, rfl⟩ : ∃ x, x = wr := ⟨_, rfl⟩
            have HKey : Hid (∀ w5 : World, w5.ownsRow wo.heap.size 4 1 (.slice (some ⟨wo.heap.size, 0, none⟩) n n) n (madeCells (Value.bool false).cells (n * 1)).toList → wo.grownBy w5 none →
                ∃ W6, (Builtin.copy_ #[23, 23] 3 #[.slice (some ⟨wo.heap.size, 0, none⟩) n n, .slice (some ⟨bd, od, none⟩) n capb]).run Try.prog (w5.alloc (.cells #[.slice (some ⟨wo.heap.size, 0, none⟩) n n] 23)) = .ok (.int .i64 n) W6 ∧
                  Whole W6 wo.heap.size 4 (boolsC done) ∧ Whole W6 w5.heap.size 23 #[.slice (some ⟨wo.heap.size, 0, none⟩) n n] ∧ Below wo.heap.size wo W6) := Lib.hid fun w5 hown hgr => by
              have hb5 : Below wo.heap.size wo w5 := ⟨hgr.os, hgr.tape, hgr.output, hgr.size, fun k hk => hgr.block k hk (by simp)⟩
              have e1 : (madeCells (Value.bool false).cells (n * 1)).toList = List.replicate n (.bool false) := by rw [Nat.mul_one]; exact toList_madeCells_one _ _
              rw [e1] at hown
              have hw := whole_of_full hown (by simp)
              have hD5 := HD.out.below (below_step HBW.out hb5)
              have hcells : ∀ k, (h : k < done.length) → w5.cell? ⟨bd, od + k, none⟩ = some (.bool done[k]) := fun k h => by
                obtain ⟨b6, o6, he6, _, h6⟩ := hD5.at h
                simp only [Option.some.injEq, Addr.mk.injEq, and_true] at he6
                obtain ⟨rfl, rfl⟩ := he6
                exact h6
              obtain ⟨W6, h1, h2, h3, h4⟩ := undo_copy (capb := capb) HDl.out hw.lt hw hcells (Nat.lt_of_lt_of_le hbd hb5.size)
              exact ⟨W6, h1, h2, h3, hb5.trans (h4 _ (Nat.le_refl _) hb5.size)⟩
            clear v1 hdk
            have v1 : wo.cell? ⟨W.heap.size, 0, none⟩ = some (.slice (some ⟨bd, od, none⟩) n capb) := HWr.out.cell 0
            have hdk : wo.cell? ⟨bd, od + tk, none⟩ = some (.bool true) := by
              obtain ⟨b6, o6, he6, _, h6⟩ := (HD.out.below HBW.out).at htd
              simp only [Option.some.injEq, Addr.mk.injEq, and_true] at he6
              obtain ⟨rfl, rfl⟩ := he6
              rw [h6, ← Hdk.out]
            have hWl := HWr.out.lt
            have HWv1 : Hid (∀ w5 : World, wo.grownBy w5 none → w5.cell? ⟨W.heap.size, 0, none⟩ = some (.slice (some ⟨bd, od, none⟩) n capb) ∧ W.heap.size < w5.heap.size) := Lib.hid fun w5 hgr => by
              have h1 : Whole w5 W.heap.size 23 #[.slice (some ⟨bd, od, none⟩) n capb] := (hgr.block _ HWr.out.lt (by simp)).trans HWr.out
              exact ⟨h1.cell 0, h1.lt⟩
            go_wp2_with (at_make; refine wpList_make_full _ rfl _ _ 23 rfl wo.heap.size 4 i1 (.bool false) 1 Try.underlying23 hi1 hy0 hy1 .i64 .i64 _ _ n rfl rfl rfl rfl (by rw [hy2]; omega) (by unfold maxLen; omega) (Nat.le_refl _) ?_; intro w5 hown hgr; obtain ⟨W6, hcopy, hwg, hwv, hb6⟩ := HKey.out w5 hown hgr; obtain ⟨v5, l5⟩ := HWv1.out w5 hgr; have HWg := Lib.hid hwg; have HWv := Lib.hid hwv; have HB6 := Lib.hid hb6; have y1 : W6.cell? ⟨w5.heap.size, 0, none⟩ = some (.slice (some ⟨wo.heap.size, 0, none⟩) n n) := hwv.cell 0; have y2 : W6.cell? ⟨wo.heap.size, tk, none⟩ = some (.bool (Tsk.dn done tk)) := (by rw [hwg.cell tk, boolsC_get htd]); have y3 := hwg.frozen tk; clear hown hgr hwg hwv hb6)
            obtain ⟨g, Hg⟩ : ∃ x, Hid (x = wo.heap.size) := ⟨_, Lib.hid rfl⟩
            obtain ⟨b13, Hb13⟩ : ∃ x, Hid (x = w5.heap.size) := ⟨_, Lib.hid rfl⟩
            have HR6 : Hid (Below w2.heap.size w2 (W6.setCell ⟨g, tk, none⟩ (.bool false)) ∧ Whole (W6.setCell ⟨g, tk, none⟩ (.bool false)) g 4 (boolsC (Tsk.undoF l done tk (ord.take 0))) ∧ Whole (W6.setCell ⟨g, tk, none⟩ (.bool false)) b13 23 #[.slice (some ⟨g, 0, none⟩) n n]) := Lib.hid (by
              rw [Hg.out, Hb13.out]
              refine ⟨Below.setCell (below_step HBr.out HB6.out) (p := ⟨wo.heap.size, tk, none⟩) HBr.out.size _, ?_, HWv.out.far (p := ⟨wo.heap.size, tk, none⟩) (HWv.out.apart HWg.out (by decide)) _⟩
              have h2 := HWg.out.set tk (.bool false)
              rw [boolsC_set] at h2
              exact h2)
            have HOI : Hid (∀ w', Below w2.heap.size w2 w' → IsInts w' ao3 (Tsk.ints ord)) := Lib.hid fun w' hb => HI2.out.below hb
            rw [← Hg.out, ← Hb13.out]
            clear y1 y2 y3 v5 l5 hcopy v1 hdk hWl
            go_loopw [78] (fun i wr => ∃ k : Nat, k ≤ n ∧ i = .int .i64 k ∧ Hid (Below w2.heap.size w2 wr ∧ Whole wr g 4 (boolsC (Tsk.undoF l done tk (ord.take k))) ∧ Whole wr b13 23 #[.slice (some ⟨g, 0, none⟩) n n])) (fun i _ => n - (intOf i).toNat)
            case atStart => exact ⟨0, by omega, rfl, HR6⟩
            case round =>
              obtain ⟨k, hk, rfl, HI⟩ := hrel
              have z1 : wr.cell? ⟨b13, 0, none⟩ = some (.slice (some ⟨g, 0, none⟩) n n) := HI.out.2.2.cell 0
              by_cases hlt : k < n
              · have hlt' : (k : Int) < n := by omega
                have hko : k < ord.length := by rw [HOl.out]; exact hlt
                have hkz : k < (Tsk.ints ord).length := by simpa [Tsk.ints] using hko
                obtain ⟨b3, o3, rfl, hb3, d3⟩ := (HOI.out _ HI.out.1).at hkz
                obtain ⟨i, Hi⟩ : ∃ i : Nat, Hid (i = ord[k]) := ⟨_, Lib.hid rfl⟩
                have hd3 : (Tsk.ints ord)[k] = (i : Int) := by rw [Hi.out]; simp [Tsk.ints]
                rw [hd3] at d3
                have hin : i < n := by
                  rw [Hi.out, Hn.out]
                  simp only [HOrdL.out]
                  exact (Tsk.order_good l).lt _ (List.getElem_mem _)
                have hin' : (i : Int) < n := by omega
                have hil : i < l.length := by rw [← Hn.out]; exact hin
                obtain ⟨bk, off, rfl, hbk, hact⟩ := (HL.out.below (below_step HB2.out HI.out.1)).at hil
                obtain ⟨t, Ht⟩ : ∃ t, Hid (t = l[i]) := ⟨_, Lib.hid rfl⟩
                rw [← Ht.out] at hact
                have HFin : Hid (tkFine t) := Lib.hid (by rw [Ht.out]; exact HF.out _ (List.getElem_mem _))
                have HNe : Hid (Tsk.needsAt l i = Tsk.needs t) := Lib.hid (by rw [Tsk.needsAt_get hil, Ht.out])
                have HFt : Hid (Tsk.fineTB n t = true) := Lib.hid (by rw [Hn.out, Ht.out]; exact HVal.out _ (List.getElem_mem _))
                obtain ⟨R, HR⟩ : ∃ x, Hid (x = Tsk.undoF l done tk (ord.take k)) := ⟨_, Lib.hid rfl⟩
                rw [← HR.out] at HI
                have HRl : Hid (R.length = n) := Lib.hid (by rw [HR.out, Tsk.undoF_len, HDl.out])
                have HAN := Lib.hid (Tsk.all_needs HNe.out (Tsk.dn R))
                obtain ⟨hh, sk, ba, af⟩ := t
                obtain ⟨c1, c2, c3, ao2, cap2, c4, hin2⟩ := hact
                simp only at c1 c2 c3 c4 hin2
                obtain ⟨mm, Hm⟩ : ∃ m, Hid (m = af.length) := ⟨_, Lib.hid rfl⟩
                rw [← Hm.out] at c4
                have HIn := Lib.hid hin2
                obtain ⟨ri, Hri⟩ : ∃ x, Hid (x = Tsk.dn R i) := ⟨_, Lib.hid rfl⟩
                have z2 : wr.cell? ⟨g, i, none⟩ = some (.bool ri) := by rw [HI.out.2.1.cell i, boolsC_get (by rw [HRl.out]; exact hin), Hri.out]
                have z3 := HI.out.2.1.frozen i
                have HNext : Hid (∀ v, v = (ri && Tsk.needsDone l R i) → Whole (wr.setCell ⟨g, i, none⟩ (.bool v)) g 4 (boolsC (Tsk.undoF l done tk (ord.take (k + 1))))) := Lib.hid fun v hv => by
                  have h2 := HI.out.2.1.set i (.bool v)
                  rw [boolsC_set] at h2
                  have e : Tsk.undoF l done tk (ord.take (k + 1)) = R.set i v := by
                    rw [Tsk.undoF_take l done tk ord hko, ← HR.out]
                    unfold Tsk.undoStep
                    rw [← Hi.out, ← Hri.out, ← hv]
                  rw [e]
                  exact h2
                have HApart : Hid (b13 ≠ g) := Lib.hid (HI.out.2.2.apart HI.out.2.1 (by decide))
                have HgB : Hid (w2.heap.size ≤ g) := Lib.hid (by rw [Hg.out]; exact HBr.out.size)
                clear hin2 c1 c2 c3 hb3 hbk
                cases ri
                · go_wp2_with fail
                  refine wp_region_quiet_tail 16 (by kernel_rfl) (by kernel_rfl) ?_
                  simp only [List.take_succ_cons, List.take_zero, List.drop_succ_cons, List.drop_zero]
                  repeat (go_big_quiet_step (fail))
                  refine wpQuiet_nil ?_
                  go_wp2
                  go_roundw
                  case rel => exact ⟨k + 1, by omega, by go_num, Lib.hid ⟨(Below.setCell HI.out.1 (p := ⟨g, i, none⟩) HgB.out _).drew, (HNext.out false rfl).drew, (HI.out.2.2.far (p := ⟨g, i, none⟩) HApart.out _).drew⟩⟩
                  case measure => simp [intOf]; omega
                · obtain ⟨rdy, Hrdy⟩ : ∃ r, Hid (r = af.all fun x => Tsk.dn R x.toNat) := ⟨_, Lib.hid rfl⟩
                  have HAll := Lib.hid (all_any 29 ⟨b13, 0, none⟩ (HEnt2.out _) af HFin.out.1 ao2 cap2 (fun x => Tsk.dn R x.toNat) wr.drew (HIn.out.below (Below.refl _ _).drew) (fun x hx => by
                    obtain ⟨q, hq, rfl⟩ := List.getElem_of_mem hx
                    have h1 := Tsk.stepB_iff.1 (Tsk.fineB_iff.1 (Tsk.fineTB_iff.1 HFt.out).2 q hq)
                    simp only at h1
                    rw [Tsk.getD_get hq] at h1
                    obtain ⟨y, hy⟩ : ∃ y : Nat, af[q] = (y : Int) := ⟨af[q].toNat, by omega⟩
                    rw [hy] at h1 ⊢
                    rw [Int.toNat_natCast]
                    exact ask_undo2 y b13 g n n _ wr.drew z1 (by omega) (by show wr.cell? _ = _; rw [HI.out.2.1.cell y, boolsC_get (by rw [HRl.out]; omega)])))
                  rw [← Hrdy.out, ← Hm.out] at HAll
                  have HNd : Hid (Tsk.needsDone l R i = rdy) := Lib.hid (by
                    rw [Hrdy.out]
                    unfold Tsk.needsDone
                    rw [HAN.out])
                  go_wp2_with fail
                  refine wp_region_quiet_tail 16 (by kernel_rfl) (by kernel_rfl) ?_
                  simp only [List.take_succ_cons, List.take_zero, List.drop_succ_cons, List.drop_zero]
                  repeat (go_big_quiet_step (fail))
                  go_big_quiet_want
                  go_big_quiet_op
                  refine ⟨_, still_of HAll.out, ?_⟩
                  go_big_quiet_on
                  repeat (go_big_quiet_step (fail))
                  refine wpQuiet_nil ?_
                  go_wp2
                  go_roundw
                  case rel => exact ⟨k + 1, by omega, by go_num, Lib.hid ⟨(Below.setCell HI.out.1 (p := ⟨g, i, none⟩) HgB.out _).drew, (HNext.out rdy (by rw [HNd.out]; rfl)).drew, (HI.out.2.2.far (p := ⟨g, i, none⟩) HApart.out _).drew⟩⟩
                  case measure => simp [intOf]; omega
              · have HP : Hid (UndoPost l done tk W (.returned (.tuple #[.slice (some ⟨g, 0, none⟩) n n, .int .i64 0])) wr) := Lib.hid (by
                  have h1 : Tsk.undoV l done tk = Tsk.undoF l done tk ord := by
                    unfold Tsk.undoV
                    rw [if_pos HZ.out, HOrdL.out]
                    rfl
                  have h2 : (Tsk.undoF l done tk ord).length = n := by rw [Tsk.undoF_len, HDl.out]
                  have h3 := HI.out.2.1
                  rw [List.take_of_length_le (by rw [HOl.out]; omega)] at h3
                  unfold UndoPost
                  rw [h1, HZ.out, h2]
                  refine ⟨some ⟨g, 0, none⟩, n, rfl, below_step HB2.out HI.out.1, Or.inr ⟨g, 0, rfl, h3.lt, fun q hq => ?_⟩⟩
                  rw [Nat.zero_add, h3.cell q, boolsC_get hq, Tsk.dn_get hq])
                obtain rfl : n = k := by omega
                go_wp2
                go_ret2
                exact HP.out
  · have hE : (E != 0) = true := by simpa using hE0
    have HP := Lib.hid (HErr.out E (by rw [HUE.out, if_pos hE0]) hE0)
    clear hE0
    go_wp2
    go_ret2
    exact HP.out _ HB2.out

theorem undo_any (l : List Tk) (hf : ∀ t ∈ l, tkFine t) (hn : l.length ≤ 9223372036854775807) (done : List Bool) (task : Int) (ao bo : Option Addr) (cap capb : Nat) (W : World) (hl : IsTasks W ao l) (hb : IsBools W bo done) :
    Calls Try.prog 15 #[.slice ao l.length cap, .slice bo done.length capb, .int .i64 task] W (UndoPost l done task W) := by
  by_cases hg : Tsk.validB l = true ∧ done.length = l.length
  · exact undo_yes l hf hg.1 done hg.2 task ao bo cap capb W hl hb
  · exact undo_arg l hf hn done hg task ao bo cap capb W hl hb

end Go.Proofs.Ytejgbfaampllaaa
