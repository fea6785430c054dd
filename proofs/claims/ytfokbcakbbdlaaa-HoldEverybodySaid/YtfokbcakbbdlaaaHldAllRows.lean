/- All, with its answer as rows of one's own. -/
import Derived.Test.YtfokbcakbbdlaaaHldRowsH
namespace Go.Proofs.Ytfokbcakbbdlaaa
open Go.RowKit Go.Deep
open Hld (Rc Hd)

/-- A list of numbers in a row of one's own. -/
def OJ (W w : World) (ao : Option Addr) (c : Nat) (zs : List Int) : Prop := w.ownsRow W.heap.size 3 1 (.slice ao zs.length c) zs.length (intsC zs)
theorem owns_far {w0 wr : World} {N B n : Nat} {v : Value} {xs : List Value} (h : ∀ b, b < w0.heap.size → b ≠ N → wr.heap[b]? = w0.heap[b]?) (hN : Whole w0 N 26 #[.slice none 0 0]) (hr : w0.ownsRow B 3 1 v n xs) : wr.ownsRow B 3 1 v n xs := by
  refine ⟨hr.1, ?_⟩
  rcases hr.2 with hv | ⟨g, cap, cur, hv, hB, hc, rest⟩
  · exact Or.inl hv
  · have hw : Whole w0 g 3 cur := hc
    exact Or.inr ⟨g, cap, cur, hv, hB, (h g hw.lt (hw.apart hN (by decide))).trans hc, rest⟩
theorem end_rows {W w0 wr : World} {N Nm No bm : Nat} {os : List Ho} {ov : Value} {ids : List ByteArray} {ao : Option Addr} {cap : Nat} (h0 : HInv W N Nm No bm os ov ids w0) (h : EndI W w0 N os os.length ao cap wr) : HCs (OJ W wr) (os.map (·.hd)) (hoCs os) := by
  have key : ∀ l : List Ho, (∀ o ∈ l, o ∈ os) → HCs (OJ W wr) (l.map (·.hd)) (hoCs l) := by
    intro l
    induction l with
    | nil => intro _; rfl
    | cons o l ih =>
      intro hl
      have ho := h0.here o (hl o (List.mem_cons_self ..))
      obtain ⟨mo, mc, hm⟩ := owns_shape ho.mem
      obtain ⟨bo, bc, hb⟩ := owns_shape ho.back
      have r1 := owns_far h.far h0.res ho.mem
      have r2 := owns_far h.far h0.res ho.back
      rw [hm] at r1
      rw [hb] at r2
      exact ⟨mo, mc, bo, bc, hoCs l, by rw [← hm, ← hb]; rfl, r1, r2, ih fun x hx => hl x (List.mem_cons_of_mem _ hx)⟩
  exact key os fun _ h => h

set_option maxRecDepth 100000 in
set_option maxHeartbeats 8000000 in
theorem all_rows (ids : List ByteArray) (recs : List Rc) (io ro : Option Addr) (ic rc : Nat) (hn : recs.length ≤ 1000) (hm : ids.length ≤ 1000) (hids : ∀ s ∈ ids, s.size ≤ 9223372036854775807) (hmem : ∀ r ∈ recs, r.members.length ≤ 1000) (W : World) (hi : IsStrs W io ids) (hr : IsRecs W ro recs) (hne : ids.length = recs.length) :
    Calls Try.prog 11 #[.slice io ids.length ic, .slice ro recs.length rc] W fun e w' => ∃ ao cap cs, e = .returned (.slice ao (Hld.allF (ids.zip recs)).length cap) ∧ w'.ownsRow W.heap.size 31 4 (.slice ao (Hld.allF (ids.zip recs)).length cap) (Hld.allF (ids.zip recs)).length cs ∧ HCs (OJ W w') (Hld.allF (ids.zip recs)) cs ∧ (Hld.allF (ids.zip recs)).length ≤ cap ∧ Below W.heap.size W w' := by
  have hmf : ∀ (fn : Fn) (first cap : Array Value) (w : World), (Instr.makeFunc fn first cap).run Try.prog w = .ok (.func fn first cap) w := fun _ _ _ _ => rfl
  have hmm := @run_makeMap Try.prog
  obtain ⟨i1, hi1, hy0, hy1, hy2⟩ := info_parts info_str
  obtain ⟨i2, hi2, hz0, hz1, hz2⟩ := info_parts info_num
  have HI := Lib.hid hi
  have HR := Lib.hid hr
  have HIds := Lib.hid hids
  have HMem := Lib.hid hmem
  obtain ⟨n, Hn⟩ : ∃ n, Hid (n = recs.length) := ⟨_, Lib.hid rfl⟩
  rw [hne]
  have HNe := Lib.hid hne
  rw [← Hn.out] at hn
  rw [← Hn.out]
  clear hi hr hids hmem hm hne
  go_enter_defers Try.func11, Try.ntmps11
  go_wp2_with fail
  obtain ⟨N, HN⟩ : ∃ N, Hid (N = W.heap.size) := ⟨_, Lib.hid rfl⟩
  rw [← HN.out]
  obtain ⟨V, HV⟩ : ∃ V, Hid (V = ((((W.alloc (.cells #[.slice none 0 0] 26)).alloc (.map #[] 0)).alloc (.cells #[.map (some (N + 1))] 61)).alloc (.cells #[.slice none 0 0] 22))) := ⟨_, Lib.hid rfl⟩
  have HI0 := Lib.hid (hinv_start HN.out HV.out)
  rw [← HV.out]
  go_loopw [21] (fun i wr => ∃ (k : Nat), k ≤ n ∧ i = .int .i64 k ∧ Hid (∃ os ov, HInv W N (N + 1 + 1) (N + 1 + 1 + 1) (N + 1) os ov (os.map (·.hd.id)) wr ∧ os.map (·.hd) = Hld.allF ((ids.zip recs).take k))) (fun i _ => n - (intOf i).toNat)
  case atStart => exact ⟨0, Nat.zero_le _, by go_num, Lib.hid ⟨[], _, HI0.out, rfl⟩⟩
  case round =>
    obtain ⟨k, hk, rfl, HX⟩ := hrel
    obtain ⟨os, ov, hX⟩ := HX.out
    have HJ := Lib.hid hX
    clear hX HX
    by_cases hkn : k < n
    · have hd : decide ((k : Int) < n) = true := decide_eq_true (by omega)
      have hb0 : (0 : Int) ≤ k := by omega
      have hb1 : (k : Int) < n := by omega
      have hkr : k < recs.length := by rw [← Hn.out]; exact hkn
      have hki : k < ids.length := by rw [HNe.out]; exact hkr
      obtain ⟨bk, off, rfl, hbk, hrg, hok, hin⟩ := HR.out.at hkr
      obtain ⟨bi, offi, rfl, hbi, hci⟩ := HI.out.at hki
      obtain ⟨r, Hr⟩ : ∃ r, Hid (r = recs[k]) := ⟨_, Lib.hid rfl⟩
      obtain ⟨s, Hs⟩ : ∃ s, Hid (s = ids[k]) := ⟨_, Lib.hid rfl⟩
      rw [← Hr.out] at hrg hok hin
      rw [← Hs.out] at hci
      replace hci := (cell_below HJ.out.1.low hbi).trans hci
      have HRg := Lib.hid (range_below hrg hbk HJ.out.1.low)
      have HOk := Lib.hid hok
      have HIn := Lib.hid (hin.below HJ.out.1.low)
      clear hrg hok hin
      go_wp2_with (first
        | (with_reducible show wpList _ _ _ (Oper.mk _ (Op.load 54 _) _ _ _ _ :: _) _ _; refine wpList_load_mid rfl _ _ rfl bk (off + k * 36) rfl r.cells _ HRg.out Try.underlying54 rfl (rec_size r HOk.out) ?_)
        | (with_reducible show wpList _ _ _ (Oper.mk _ (Op.store 54 _ _) _ _ _ _ :: _) _ _; refine wpList_store_new rfl _ _ _ rfl _ r.cells.toArray rfl rfl (rec_size' r HOk.out) (by rw [rec_36 r HOk.out]; simp only [List.size_toArray, List.length_cons, List.length_nil]) (all_oneCell_toArray HOk.out.one) ?_; refine Hid.out ?_))
      obtain ⟨R, HRe⟩ : ∃ R, Hid (R = wr.heap.size) := ⟨_, Lib.hid rfl⟩
      obtain ⟨v, Hv⟩ : ∃ v, Hid (v = wr.alloc (.cells r.cells.toArray 54)) := ⟨_, Lib.hid rfl⟩
      have HbV : Hid (Below wr.heap.size wr v) := Lib.hid (by rw [Hv.out]; exact (Below.refl _ _).alloc (Nat.le_refl _) _)
      have HJv := Lib.hid (HJ.out.1.below HbV.out)
      have HRv := Lib.hid (show Whole v R 54 r.cells.toArray by rw [Hv.out, HRe.out]; exact Whole.new _ _ _)
      replace hci := (cell_below HbV.out (Nat.lt_of_lt_of_le hbi HJ.out.1.low.size)).trans hci
      have HIv := Lib.hid (HIn.out.below HbV.out)
      rw [← Hv.out, ← HRe.out]
      obtain ⟨kd, Hkd⟩ : ∃ x, Hid (x = r.kind) := ⟨_, Lib.hid rfl⟩
      obtain ⟨au, Hau⟩ : ∃ x, Hid (x = r.author) := ⟨_, Lib.hid rfl⟩
      obtain ⟨ta, Hta⟩ : ∃ x, Hid (x = r.target) := ⟨_, Lib.hid rfl⟩
      obtain ⟨na, Hna⟩ : ∃ x, Hid (x = r.name) := ⟨_, Lib.hid rfl⟩
      obtain ⟨ml, Hml⟩ : ∃ x, Hid (x = r.members.length) := ⟨_, Lib.hid rfl⟩
      obtain ⟨mo, Hmo⟩ : ∃ x, Hid (x = r.mo) := ⟨_, Lib.hid rfl⟩
      obtain ⟨mc, Hmc⟩ : ∃ x, Hid (x = r.mc) := ⟨_, Lib.hid rfl⟩
      have rcell : ∀ (w : World), Whole w R 54 r.cells.toArray → w.cell? ⟨R, 0, none⟩ = some (.int .i64 kd) ∧ w.cell? ⟨R, 1, none⟩ = some (.int .i64 au) ∧ w.cell? ⟨R, 5, none⟩ = some (.string ta) ∧ w.cell? ⟨R, 6, none⟩ = some (.string na) ∧ w.cell? ⟨R, 8, none⟩ = some (.slice mo ml mc) := fun w hw => by
        rw [hw.cell, hw.cell, hw.cell, hw.cell, hw.cell, Hkd.out, Hau.out, Hta.out, Hna.out, Hml.out, Hmo.out, Hmc.out]
        simp only [List.getElem?_toArray]
        exact ⟨HOk.out.c0, HOk.out.c1, HOk.out.c5, HOk.out.c6, HOk.out.c8⟩
      have HRc := Lib.hid rcell
      obtain ⟨r0, r1, r5, r6, r8⟩ := rcell v HRv.out
      have mvar : v.cell? ⟨N + 1 + 1, 0, none⟩ = some (.map (some (N + 1))) := HJv.out.var.cell 0
      have hta9 : ta.size ≤ maxLen := by rw [Hta.out]; exact HOk.out.t9
      have hs9 : s.size ≤ maxLen := by rw [Hs.out]; exact HIds.out _ (List.getElem_mem hki)
      have hlk := HJv.out.map.look_ok hta9
      have hlk2 := HJv.out.map.look hs9
      have HTk : Hid (∀ hs, Hld.step (Hld.allF ((ids.zip recs).take k)) (s, r) = hs → Hld.allF ((ids.zip recs).take (k + 1)) = hs) := Lib.hid (fun hs h => by
        have hz : k < (ids.zip recs).length := by rw [List.length_zip]; omega
        rw [List.take_succ_eq_append_getElem hz, Hld.allF_snoc, List.getElem_zip, ← Hs.out, ← Hr.out]
        exact h)
      clear rcell hta9 hbi hbk
      -- nothing is made, and nothing is given back
      have HSame : Hid (Hld.step (Hld.allF ((ids.zip recs).take k)) (s, r) = Hld.allF ((ids.zip recs).take k) → ∀ X : Grown v, ∃ os ov, HInv W N (N + 1 + 1) (N + 1 + 1 + 1) (N + 1) os ov (os.map (·.hd.id)) X.w ∧ os.map (·.hd) = Hld.allF ((ids.zip recs).take (k + 1))) := Lib.hid (fun h X =>
        ⟨os, ov, HJv.out.below X.below, by rw [HTk.out _ h]; exact HJ.out.2⟩)
      have gk0 : ∀ X : Grown v, X.w.cell? ⟨R, 0, none⟩ = some (.int .i64 kd) := fun X => by rw [X.cell HRv.out.lt]; exact r0
      have gk1 : ∀ X : Grown v, X.w.cell? ⟨R, 1, none⟩ = some (.int .i64 au) := fun X => by rw [X.cell HRv.out.lt]; exact r1
      have HF2 := Lib.hid (findG_known (os := os) (t := s))
      by_cases h6 : kd = 6
      · have e5 : (kd == 5) = false := by rw [h6]; rfl
        have e6 : (kd == 6) = true := by rw [h6]; rfl
        have HK6 := Lib.hid (Hkd.out.symm.trans h6)
        clear h6 hlk2
        refine Lib.hid ?_
        cases hf : findG os ta with
        | none =>
          have HS := Lib.hid (HSame.out (by rw [← HJ.out.2]; exact Hld.step_none HK6.out (by rw [← Hta.out]; exact findG_none hf)))
          rw [hf] at hlk
          simp only [ptrOf, Option.map_none, Option.isSome_none] at hlk
          clear hf
          go_wp2_with fail
          refine wp_region_grown (by kernel_rfl) (by kernel_rfl) ?_
          repeat (go_big_quiet_step (fail))
          refine wpQuiet_nil ?_
          rintro _ ⟨X, rfl⟩
          go_wp2_with fail
          go_round
          case rel => exact ⟨k + 1, by omega, by go_num, Lib.hid (HS.out X)⟩
          case measure => simp [intOf]; omega
        | some g =>
          rw [hf] at hlk
          simp only [ptrOf, Option.map_some, Option.isSome_some] at hlk
          obtain ⟨j, hj, hid, hgj⟩ := findG_some hf
          have Hg := Lib.hid hgj
          have ho := HJv.out.here _ (List.getElem_mem hj)
          obtain ⟨mo2, mc2, hmv⟩ := owns_shape ho.mem
          obtain ⟨bo2, bc2, hbv⟩ := owns_shape ho.back
          have hjl : j < (os.map (·.hd)).length := by rw [List.length_map]; exact hj
          have hmemA : os[j].hd ∈ Hld.allF ((ids.zip recs).take k) := by rw [← HJ.out.2]; exact List.mem_map.2 ⟨_, List.getElem_mem hj, rfl⟩
          have hbl9 : os[j].hd.back.length ≤ 1000 := by
            have := (Hld.all_mem hmemA).2
            rw [List.length_take] at this
            omega
          have hml9 : os[j].hd.members.length ≤ 1000 := by
            obtain ⟨⟨x, hx, _, e2⟩, _⟩ := Hld.all_mem hmemA
            rw [e2]
            exact HMem.out _ (List.of_mem_zip (List.mem_of_mem_take hx)).2
          have hr1 := ho.mem
          have hr2 := ho.back
          rw [hmv] at hr1
          rw [hbv] at hr2
          have hI1 := ints_of_row hr1
          have hI2 := ints_of_row hr2
          obtain ⟨ml2, Hml2⟩ : ∃ x, Hid (x = os[j].hd.members.length) := ⟨_, Lib.hid rfl⟩
          obtain ⟨bl2, Hbl2⟩ : ∃ x, Hid (x = os[j].hd.back.length) := ⟨_, Lib.hid rfl⟩
          obtain ⟨cm, Hcm⟩ : ∃ x, Hid (x = os[j].hd.members.contains au) := ⟨_, Lib.hid rfl⟩
          obtain ⟨cb, Hcb⟩ : ∃ x, Hid (x = os[j].hd.back.contains au) := ⟨_, Lib.hid rfl⟩
          have HC1 : Hid (∀ X : Grown v, Calls Try.prog 24 #[.slice mo2 ml2 mc2, .int .i64 au] X.w fun e w' => e = .returned (.bool cm) ∧ X.w = w') := Lib.hid (fun X => by
            rw [Hml2.out, Hcm.out]
            exact (contains_any mo2 _ mc2 au (by omega) X.w (hI1.below X.below)).mono fun e w' h => ⟨h.1, h.2.symm⟩)
          have HC2 : Hid (∀ X : Grown v, Calls Try.prog 24 #[.slice bo2 bl2 bc2, .int .i64 au] X.w fun e w' => e = .returned (.bool cb) ∧ X.w = w') := Lib.hid (fun X => by
            rw [Hbl2.out, Hcb.out]
            exact (contains_any bo2 _ bc2 au (by omega) X.w (hI2.below X.below)).mono fun e w' h => ⟨h.1, h.2.symm⟩)
          rw [← Hml2.out] at hmv hml9
          rw [← Hbl2.out] at hbv hbl9
          have HWg : Hid (Whole v g 31 #[.string os[j].hd.id, .string os[j].hd.vehicle, .slice mo2 ml2 mc2, .slice bo2 bl2 bc2]) := Lib.hid (by rw [← Hg.out, ← hmv, ← hbv]; exact ho.cell)
          have gz2 : ∀ X : Grown v, X.w.cell? ⟨g, 2, none⟩ = some (.slice mo2 ml2 mc2) := fun X => by rw [X.cell HWg.out.lt]; exact HWg.out.cell 2
          have gz3 : ∀ X : Grown v, X.w.cell? ⟨g, 3, none⟩ = some (.slice bo2 bl2 bc2) := fun X => by rw [X.cell HWg.out.lt]; exact HWg.out.cell 3
          have HStep : Hid (Hld.step (Hld.allF ((ids.zip recs).take k)) (s, r) = (os.map (·.hd)).set j (Hld.give r os[j].hd)) := Lib.hid (by
            have := Hld.step_some (s := s) (r := r) (hs := os.map (·.hd)) (by rw [HJ.out.2]; exact Hld.apart_all _) HK6.out hjl (by rw [List.getElem_map, hid, Hta.out])
            rw [← HJ.out.2, this, List.getElem_map])
          have HGive : Hid (Hld.give r os[j].hd = if cm && !cb then { os[j].hd with back := os[j].hd.back ++ [au] } else os[j].hd) := Lib.hid (by
            unfold Hld.give Hld.gives
            rw [Hcm.out, Hcb.out, ← Hau.out, decide_eq_true (show r.target = os[j].hd.id by rw [hid, Hta.out]), Bool.true_and])
          have HSg : Hid ((cm && !cb) = false → ∀ X : Grown v, ∃ os ov, HInv W N (N + 1 + 1) (N + 1 + 1 + 1) (N + 1) os ov (os.map (·.hd.id)) X.w ∧ os.map (·.hd) = Hld.allF ((ids.zip recs).take (k + 1))) := Lib.hid (fun hc => HSame.out (by
            rw [HStep.out, HGive.out, hc, ← HJ.out.2]
            have e : os[j].hd = (os.map (·.hd))[j] := by rw [List.getElem_map]
            rw [if_neg (by simp), e, List.set_getElem_self]))
          have HBack := Lib.hid (show v.ownsRow W.heap.size 3 1 (.slice bo2 bl2 bc2) bl2 (intsC os[j].hd.back) by rw [← hbv, Hbl2.out]; exact ho.back)
          have HBv := Lib.hid hbv
          clear ho hr1 hr2 hI1 hI2 hmemA hf hgj hmv hbv hid hml9
          cases cm with
          | false =>
            have HS := Lib.hid (HSg.out rfl)
            go_wp2_with fail
            refine wp_region_grown (by kernel_rfl) (by kernel_rfl) ?_
            repeat (go_big_quiet_step (exact grown_of_same (HC1.out _)))
            refine wpQuiet_nil ?_
            rintro _ ⟨X, rfl⟩
            go_wp2_with fail
            go_round
            case rel => exact ⟨k + 1, by omega, by go_num, Lib.hid (HS.out X)⟩
            case measure => simp [intOf]; omega
          | true =>
          cases cb with
          | true =>
            have HS := Lib.hid (HSg.out rfl)
            go_wp2_with fail
            refine wp_region_grown (by kernel_rfl) (by kernel_rfl) ?_
            iterate 14 (go_big_quiet_step (exact grown_of_same (HC1.out _)))
            repeat (go_big_quiet_step (exact grown_of_same (HC2.out _)))
            refine wpQuiet_nil ?_
            rintro _ ⟨X, rfl⟩
            go_wp2_with fail
            go_round
            case rel => exact ⟨k + 1, by omega, by go_num, Lib.hid (HS.out X)⟩
            case measure => simp [intOf]; omega
          | false =>
            go_wp2_with fail
            refine wp_region_grown (by kernel_rfl) (by kernel_rfl) ?_
            iterate 14 (go_big_quiet_step (exact grown_of_same (HC1.out _)))
            repeat (go_big_quiet_step (exact grown_of_same (HC2.out _)))
            refine wpQuiet_nil ?_
            rintro _ ⟨X, rfl⟩
            obtain ⟨x, Hx⟩ : ∃ y, Hid (y = X.w) := ⟨_, Lib.hid rfl⟩
            have HIx := Lib.hid (show HInv W N (N + 1 + 1) (N + 1 + 1 + 1) (N + 1) os ov (os.map (·.hd.id)) x by rw [Hx.out]; exact HJv.out.below X.below)
            have HRx := Lib.hid (show Whole x R 54 r.cells.toArray by rw [Hx.out]; exact whole_below HRv.out X.below)
            have HWx := Lib.hid (show Whole x g 31 #[.string os[j].hd.id, .string os[j].hd.vehicle, .slice mo2 ml2 mc2, .slice bo2 bl2 bc2] by rw [Hx.out]; exact whole_below HWg.out X.below)
            have HBx := Lib.hid (show x.ownsRow W.heap.size 3 1 (.slice bo2 bl2 bc2) bl2 (intsC os[j].hd.back) by rw [Hx.out]; exact owns_below HBack.out X.below)
            rw [← Hx.out]
            clear gk0 gk1 gz2 gz3
            have x1 : x.cell? ⟨R, 1, none⟩ = some (.int .i64 au) := (HRc.out x HRx.out).2.1
            have x3 : x.cell? ⟨g, 3, none⟩ = some (.slice bo2 bl2 bc2) := HWx.out.cell 3
            have y3 : (x.alloc (.cells #[.int .i64 au] 3)).cell? ⟨g, 3, none⟩ = some (.slice bo2 bl2 bc2) := (HWx.out.alloc _).cell 3
            have hxW : W.heap.size ≤ x.heap.size := HIx.out.low.size
            have hxs : ∀ (X : World), (X.alloc (.cells #[.int .i64 au] 3)).heap.size = X.heap.size + 1 := fun X => size_alloc _ _
            have HNw : Hid (∀ (i : Nat) (u : Value), [Value.int .i64 au][i]? = some u → ((x.alloc (.cells #[.int .i64 au] 3)).drew).cell? ((⟨x.heap.size, 0, none⟩ : Addr).add i) = some u) := Lib.hid (by
              intro i u hu
              have e : (⟨x.heap.size, 0, none⟩ : Addr).add i = ⟨x.heap.size, i, none⟩ := by unfold Addr.add; split <;> simp_all
              rw [e, World.cell?_drew, cell_alloc, if_pos rfl]
              simpa using hu)
            have HRow : Hid (((x.alloc (.cells #[.int .i64 au] 3)).drew).ownsRow W.heap.size 3 1 (.slice bo2 bl2 bc2) bl2 (intsC os[j].hd.back)) := Lib.hid (HBx.out.alloc _).drew
            have HK : Hid (∀ w10 g' cap', ((x.alloc (.cells #[.int .i64 au] 3)).drew).grownBy w10 (Value.slice bo2 bl2 bc2).ownBlock → w10.ownsRow W.heap.size 3 1 (.slice (some ⟨g', 0, none⟩) (bl2 + 1) cap') (bl2 + 1) (intsC os[j].hd.back ++ [.int .i64 au]) → ((Value.slice bo2 bl2 bc2).ownBlock = some g' ∨ g' = ((x.alloc (.cells #[.int .i64 au] 3)).drew).heap.size) →
                w10.cell? ⟨g, 3, none⟩ = some (.slice bo2 bl2 bc2) ∧ w10.frozen? ⟨g, 3, none⟩ = false ∧ ∃ os ov, HInv W N (N + 1 + 1) (N + 1 + 1 + 1) (N + 1) os ov (os.map (·.hd.id)) (w10.setCell ⟨g, 3, none⟩ (.slice (some ⟨g', 0, none⟩) (bl2 + 1) cap')) ∧ os.map (·.hd) = Hld.allF ((ids.zip recs).take (k + 1))) := Lib.hid (fun w10 g' cap' hg hr hl => by
              have hI : HInv W N (N + 1 + 1) (N + 1 + 1 + 1) (N + 1) os ov (os.map (·.hd.id)) ((x.alloc (.cells #[.int .i64 au] 3)).drew) := HIx.out.below ((Below.refl _ _).alloc (Nat.le_refl _) _).drew
              have hW0 : Whole ((x.alloc (.cells #[.int .i64 au] 3)).drew) g 31 #[.string os[j].hd.id, .string os[j].hd.vehicle, .slice mo2 ml2 mc2, .slice bo2 bl2 bc2] := (HWx.out.alloc _).drew
              have hW1 := whole_grown hW0 hg (owns_whole HRow.out hW0 (by decide))
              refine ⟨hW1.cell 3, hW1.frozen 3, os.set j ⟨{ os[j].hd with back := os[j].hd.back ++ [au] }, os[j].g, os[j].mv, .slice (some ⟨g', 0, none⟩) (bl2 + 1) cap'⟩, ov, ?_, ?_⟩
              · have := hI.given (w1 := w10) hj (bv' := .slice (some ⟨g', 0, none⟩) (bl2 + 1) cap') (a := au) (by rw [HBv.out]; exact hg) (by rw [← Hbl2.out]; exact hr) (by
                  rcases hl with hl | hl
                  · exact Or.inl (by rw [HBv.out, hl]; rfl)
                  · refine Or.inr fun q hq => ?_
                    have e : g' = q := by simpa [Value.ownBlock] using hq
                    rw [← e, hl]
                    exact Nat.le_refl _)
                rw [Hg.out] at this
                have e : (os.set j ⟨{ os[j].hd with back := os[j].hd.back ++ [au] }, g, os[j].mv, .slice (some ⟨g', 0, none⟩) (bl2 + 1) cap'⟩).map (fun o : Ho => o.hd.id) = os.map (fun o : Ho => o.hd.id) := by
                  apply List.ext_getElem
                  · simp
                  intro i h1 h2
                  rw [List.getElem_map, List.getElem_map, List.getElem_set]
                  split
                  · rename_i hji; subst hji; rfl
                  · rfl
                rw [Hg.out, e]
                exact this
              · rw [HTk.out _ HStep.out, HGive.out, List.map_set]
                rfl)
            clear hlk
            go_wp2_with fail
            refine wp_calm ?_
            go_region_law (refine step_append_lies _ rfl (.tmp 97) (.tmp 100) 29 rfl W.heap.size 3 i2 (.int .i64 0) 1 8 Try.underlying29 hi2 hz0 hz1 hz2 rfl (by decide) (.slice bo2 bl2 bc2) bl2 (intsC os[j].hd.back) (by simp [Act.eval]) HRow.out ⟨x.heap.size, 0, none⟩ 1 1 [.int .i64 au] (by simp [Act.eval]) rfl HNw.out (by simp [Value.oneCell']) (by decide) (by unfold maxLen; omega) (by omega) (by show _ ≤ (x.alloc _).heap.size; rw [hxs]; omega) _ rfl ?_; intro g' cap' w10 hown hgrow hloc _; obtain ⟨q1, q2, hfin⟩ := HK.out w10 g' cap' hgrow hown hloc; have HFin := Lib.hid hfin; clear hown hgrow hloc hfin)
            all_goals
              refine calm_normal ?_
              go_wp2_with fail
              go_round
              case rel => exact ⟨k + 1, by omega, by go_num, HFin⟩
              case measure => simp [intOf]; omega
      have e6 : (kd == 6) = false := by simpa using h6
      by_cases h5 : kd = 5 ∧ 0 < ml
      · have e5 : (kd == 5) = true := by rw [h5.1]; rfl
        have hm0 : decide (0 < ml) = true := decide_eq_true h5.2
        have hm1 : decide ((0 : Int) < (ml : Int)) = true := decide_eq_true (by omega)
        have HMk : Hid (Hld.makes r = true) := Lib.hid (by
          unfold Hld.makes
          rw [← Hkd.out, h5.1, Bool.and_eq_true, decide_eq_true_eq, decide_eq_true_eq]
          exact ⟨rfl, fun e => by rw [Hml.out, e] at h5; exact absurd h5.2 (by simp)⟩)
        clear h5 h6
        refine Lib.hid ?_
        obtain ⟨pv, hpv⟩ : ∃ pv, ptrOf (findG os ta) = pv := ⟨_, rfl⟩
        obtain ⟨bv, hbv⟩ : ∃ bv, (findG os ta).isSome = bv := ⟨_, rfl⟩
        rw [hpv, hbv] at hlk
        clear hpv hbv
        cases hf2 : findG os s with
        | some g2 =>
          have HS := Lib.hid (HSame.out (by
            unfold Hld.step
            dsimp only
            rw [if_pos HMk.out, ← HJ.out.2, HF2.out, hf2]
            rfl))
          rw [hf2] at hlk2
          simp only [ptrOf, Option.map_some] at hlk2
          clear hf2
          go_wp2_with fail
          refine wp_region_grown (by kernel_rfl) (by kernel_rfl) ?_
          repeat (go_big_quiet_step (fail))
          refine wpQuiet_nil ?_
          rintro _ ⟨X, rfl⟩
          go_wp2_with fail
          go_round
          case rel => exact ⟨k + 1, by omega, by go_num, Lib.hid (HS.out X)⟩
          case measure => simp [intOf]; omega
        | none =>
          rw [hf2] at hlk2
          simp only [ptrOf, Option.map_none] at hlk2
          have HNew := Lib.hid hf2
          clear hf2
          have hosl : os.length ≤ 1000 := by
            have h1 := congrArg List.length HJ.out.2
            rw [List.length_map] at h1
            have h2 := Hld.allF_len ((ids.zip recs).take k)
            rw [List.length_take] at h2
            omega
          have hml9 : ml ≤ 1000 := by rw [Hml.out, Hr.out]; exact HMem.out _ (List.getElem_mem hkr)
          have HClone : Hid (∀ w, Below v.heap.size v w → Calls Try.prog 23 #[.slice mo ml mc] w fun e w' => ∃ v', e = .returned v' ∧ w'.ownsRow w.heap.size 3 1 v' ml (intsC r.members) ∧ Below w.heap.size w w') := Lib.hid (fun w hb => by
            have := clone_any r.mo r.members r.mc (by rw [← Hml.out]; omega) w (HIv.out.below hb)
            rw [← Hml.out, ← Hmo.out, ← Hmc.out] at this
            exact this)
          have HMade : Hid (∀ w1 mo2 mc2, Below v.heap.size v w1 → w1.ownsRow v.heap.size 3 1 (.slice mo2 ml mc2) ml (intsC r.members) →
              (PMap (w1.alloc (.cells #[.string s, .string na, .slice mo2 ml mc2, .slice none 0 0] 31)) (N + 1) os.length (findG os)) ∧
              ∀ w3, (w1.alloc (.cells #[.string s, .string na, .slice mo2 ml mc2, .slice none 0 0] 31)).grownBy w3 (some (N + 1)) → PMap w3 (N + 1) (os.length + 1) (fun t => if t = s then some w1.heap.size else findG os t) →
                Whole w3 R 54 r.cells.toArray ∧ HInv W N (N + 1 + 1) (N + 1 + 1 + 1) (N + 1) (os ++ [⟨⟨s, na, r.members, []⟩, w1.heap.size, .slice mo2 ml mc2, .slice none 0 0⟩]) ov (os.map (·.hd.id)) w3) := Lib.hid (fun w1 mo2 mc2 hb ho => by
            have hb2 : Below v.heap.size v (w1.alloc (.cells #[.string s, .string na, .slice mo2 ml mc2, .slice none 0 0] 31)) := hb.alloc hb.size _
            refine ⟨HJv.out.map.kept (below_grownBy hb2 none) (by simp), fun w3 hg hp => ⟨?_, ?_⟩⟩
            · exact whole_grown (whole_below HRv.out hb2) hg (fun e => HJv.out.map.ne HRv.out (Option.some.inj e))
            · refine HJv.out.made (w1 := w1.alloc (.cells #[.string s, .string na, .slice mo2 ml mc2, .slice none 0 0] 31)) (o := ⟨⟨s, na, r.members, []⟩, w1.heap.size, .slice mo2 ml mc2, .slice none 0 0⟩) hb2 ⟨Whole.new _ _ _, ?_, World.ownsRow_nil _ _ _ _, Nat.le_trans HJv.out.low.size hb.size⟩ hb.size (fun g hg' => (ho.lt g hg').1) rfl hg hp HNew.out
              show World.ownsRow _ _ _ _ _ r.members.length _
              rw [← Hml.out]
              exact owns_weaken (ho.alloc _) HJv.out.low.size)
          have HSc : Hid (∀ w, Whole w R 54 r.cells.toArray → w.cell? ⟨N + 1 + 1, 0, none⟩ = some (.map (some (N + 1))) → w.cell? ⟨N + 1 + 1, 0, none⟩ = some (.map (some (N + 1))) ∧ w.cell? ⟨R, 6, none⟩ = some (.string na) ∧ w.cell? ⟨R, 8, none⟩ = some (.slice mo ml mc)) := Lib.hid (fun w h1 h2 => ⟨h2, (HRc.out w h1).2.2.2.1, (HRc.out w h1).2.2.2.2⟩)
          have hS0 := HSc.out v HRv.out mvar
          go_wp2_with fail
          refine wp_calm ?_
          go_region_held_law (fun w' => w'.cell? ⟨N + 1 + 1, 0, none⟩ = some (.map (some (N + 1))) ∧ w'.cell? ⟨R, 6, none⟩ = some (.string na) ∧ w'.cell? ⟨R, 8, none⟩ = some (.slice mo ml mc)) (first | exact hS3 | exact hS2 | exact hS1 | exact hS0) (first | (go_simp; go_at_call 23; refine (HClone.out _ (Below.refl _ _).drew).mono ?_; rintro e w1 ⟨mv, rfl, hown, hb⟩; obtain ⟨mo2, mc2, rfl⟩ := owns_shape hown; have HB1 : Hid (Below v.heap.size v w1) := Lib.hid ((Below.refl _ _).drew.trans hb); have HP2 := Lib.hid (HMade.out w1 mo2 mc2 HB1.out hown); have hS1 := HSc.out w1 (whole_below HRv.out HB1.out) ((cell_below HB1.out HJv.out.var.lt).trans mvar); have hS2 := HSc.out (w1.alloc (.cells #[.string s, .string na, .slice mo2 ml mc2, .slice none 0 0] 31)) ((whole_below HRv.out HB1.out).alloc _) (((whole_below HJv.out.var HB1.out).alloc _).cell 0); obtain ⟨w3, hrun3, hp3, hg3⟩ := HP2.out.1.update (by unfold maxLen; omega) hs9 w1.heap.size; have HM3 := Lib.hid (HP2.out.2 w3 hg3 hp3); have hS3 := HSc.out w3 HM3.out.1 (HM3.out.2.var.cell 0); clear hown hb hp3 hg3))
          refine calm_normal ?_
          obtain ⟨oo, oc, hov⟩ := owns_shape HM3.out.2.row
          obtain ⟨ol, Hol⟩ : ∃ x, Hid (x = (os.map (·.hd.id)).length) := ⟨_, Lib.hid rfl⟩
          have hol : ol ≤ 1000 := by rw [Hol.out, List.length_map]; exact hosl
          rw [← Hol.out] at hov
          subst hov
          have q0 : w3.cell? ⟨N + 1 + 1 + 1, 0, none⟩ = some (.slice oo ol oc) := HM3.out.2.ord.cell 0
          have HRow3 : Hid (w3.ownsRow W.heap.size 9 1 (.slice oo ol oc) ol (strC (os.map (·.hd.id)))) := Lib.hid (by have := HM3.out.2.row; rw [← Hol.out] at this; exact this)
          have hw3 : W.heap.size ≤ w3.heap.size := HM3.out.2.low.size
          have HNs : Hid (∀ (i : Nat) (u : Value), [Value.string s][i]? = some u → (w3.alloc (.cells #[.string s] 9)).cell? ((⟨w3.heap.size, 0, none⟩ : Addr).add i) = some u) := Lib.hid (by
            intro i u hu
            have e : (⟨w3.heap.size, 0, none⟩ : Addr).add i = ⟨w3.heap.size, i, none⟩ := by unfold Addr.add; split <;> simp_all
            rw [e, cell_alloc, if_pos rfl]
            simpa using hu)
          have HOrd : Hid (∀ w4 v', (w3.alloc (.cells #[.string s] 9)).grownBy w4 (Value.slice oo ol oc).ownBlock → w4.ownsRow W.heap.size 9 1 v' (ol + 1) (strC (os.map (·.hd.id)) ++ [.string s]) →
              w4.cell? ⟨N + 1 + 1 + 1, 0, none⟩ = some (.slice oo ol oc) ∧ w4.frozen? ⟨N + 1 + 1 + 1, 0, none⟩ = false ∧ ∃ os ov, HInv W N (N + 1 + 1) (N + 1 + 1 + 1) (N + 1) os ov (os.map (·.hd.id)) (w4.setCell ⟨N + 1 + 1 + 1, 0, none⟩ v') ∧ os.map (·.hd) = Hld.allF ((ids.zip recs).take (k + 1))) := Lib.hid (fun w4 v' hg hr => by
            have hI := HM3.out.2.below ((Below.refl _ _).alloc (Nat.le_refl _) (.cells #[.string s] 9))
            have ko := whole_grown hI.ord hg (owns_whole hI.row hI.ord (by decide))
            refine ⟨ko.cell 0, ko.frozen 0, os ++ [⟨⟨s, na, r.members, []⟩, w1.heap.size, .slice mo2 ml mc2, .slice none 0 0⟩], v', ?_, ?_⟩
            · have := hI.ordered (w1 := w4) (ov' := v') (id := s) hg (by rw [← Hol.out]; exact hr)
              have e : os.map (fun o : Ho => o.hd.id) ++ [s] = (os ++ [(⟨⟨s, na, r.members, []⟩, w1.heap.size, .slice mo2 ml mc2, .slice none 0 0⟩ : Ho)]).map (fun o : Ho => o.hd.id) := by simp
              rw [e] at this
              exact this
            · rw [List.map_append, HJ.out.2, HTk.out (Hld.allF ((ids.zip recs).take k) ++ [⟨s, na, r.members, []⟩])]
              · rfl
              · unfold Hld.step
                dsimp only
                rw [if_pos HMk.out, ← HJ.out.2, HF2.out, HNew.out, ← Hna.out]
                rfl)
          clear hS0 hS1 hS2 hS3 hrun3 hlk hlk2 e5 e6
          go_wp2_with (at_builtin; refine wpList_append_own _ rfl _ _ 22 rfl W.heap.size 9 i1 (.string ⟨#[]⟩) 1 16 Try.underlying22 hi1 hy0 hy1 hy2 rfl (by decide) _ _ _ rfl (HRow3.out.alloc _) ⟨w3.heap.size, 0, none⟩ 1 1 [.string s] rfl rfl HNs.out (by simp [Value.oneCell']) (by unfold maxLen; omega) (by omega) (by rw [size_alloc]; omega) ?_; intro v' w4 hown hgrow _; obtain ⟨vo', vc', rfl⟩ := owns_shape hown; obtain ⟨q1, q2, hfin⟩ := HOrd.out w4 _ hgrow hown; have HFin := Lib.hid hfin; clear hown hgrow hfin)
          go_round
          case rel => exact ⟨k + 1, by omega, by go_num, HFin⟩
          case measure => simp [intOf]; omega
      · have HS := Lib.hid (HSame.out (by
          unfold Hld.step Hld.makes
          dsimp only
          rw [← Hkd.out, if_neg h6, if_neg]
          intro h
          rw [Bool.and_eq_true, decide_eq_true_eq, decide_eq_true_eq] at h
          exact h5 ⟨h.1, by rw [Hml.out]; exact List.length_pos_iff.2 h.2⟩))
        refine Lib.hid ?_
        clear hlk2
        obtain ⟨pv, hpv⟩ : ∃ pv, ptrOf (findG os ta) = pv := ⟨_, rfl⟩
        obtain ⟨bv, hbv⟩ : ∃ bv, (findG os ta).isSome = bv := ⟨_, rfl⟩
        rw [hpv, hbv] at hlk
        clear hpv hbv
        by_cases h5' : kd = 5
        · have e5 : (kd == 5) = true := by rw [h5']; rfl
          have hm0 : ml = 0 := by
            rcases Nat.eq_zero_or_pos ml with h | h
            · exact h
            · exact absurd ⟨h5', h⟩ h5
          subst hm0
          clear h5 h5' h6
          go_wp2_with fail
          refine wp_region_grown (by kernel_rfl) (by kernel_rfl) ?_
          repeat (go_big_quiet_step (fail))
          refine wpQuiet_nil ?_
          rintro _ ⟨X, rfl⟩
          go_wp2_with fail
          go_round
          case rel => exact ⟨k + 1, by omega, by go_num, Lib.hid (HS.out X)⟩
          case measure => simp [intOf]; omega
        · have e5 : (kd == 5) = false := by simpa using h5'
          clear h5 h5' h6
          go_wp2_with fail
          refine wp_region_grown (by kernel_rfl) (by kernel_rfl) ?_
          repeat (go_big_quiet_step (fail))
          refine wpQuiet_nil ?_
          rintro _ ⟨X, rfl⟩
          go_wp2_with fail
          go_round
          case rel => exact ⟨k + 1, by omega, by go_num, Lib.hid (HS.out X)⟩
          case measure => simp [intOf]; omega
    · obtain rfl : k = n := by omega
      have hd : decide ((k : Int) < k) = false := decide_eq_false (by omega)
      have HA : Hid (os.map (·.hd) = Hld.allF (ids.zip recs)) := Lib.hid (by
        have := HJ.out.2
        rwa [List.take_of_length_le (by rw [List.length_zip, ← HNe.out, Nat.min_self, HNe.out, ← Hn.out]; exact Nat.le_refl _)] at this)
      have c0 : wr.cell? ⟨N, 0, none⟩ = some (.slice none 0 0) := HJ.out.1.res.cell 0
      have c1 := HJ.out.1.res.frozen 0
      go_wp2_with fail
      have hb : Below wr.heap.size wr (wr.setCell ⟨N, 0, none⟩ (.slice none 0 0)) := by
        refine ⟨rfl, rfl, rfl, by rw [World.size_setCell]; exact Nat.le_refl _, fun b hb => ?_⟩
        by_cases e : b = N
        · subst e
          exact (HJ.out.1.res.set 0 (.slice none 0 0)).trans HJ.out.1.res.symm
        · exact Below.heap_setCell wr ⟨N, 0, none⟩ _ b e
      have hos : os.length ≤ 1000 := by
        have h1 := congrArg List.length HA.out
        have h2 := Hld.allF_len (ids.zip recs)
        rw [List.length_map] at h1
        rw [List.length_zip, HNe.out, Nat.min_self, ← Hn.out] at h2
        omega
      have hids : ∀ o ∈ os, o.hd.id.size ≤ 9223372036854775807 := fun o ho => by
        have h1 : o.hd ∈ Hld.allF (ids.zip recs) := by rw [← HA.out]; exact List.mem_map.2 ⟨o, ho, rfl⟩
        obtain ⟨⟨x, hx, e1, _⟩, _⟩ := Hld.all_mem h1
        rw [e1]
        exact HIds.out _ (List.of_mem_zip hx).1
      refine leaves_cons (f := 22) (args := #[.pointer (some ⟨N + 1 + 1 + 1, 0, none⟩), .pointer (some ⟨N, 0, none⟩), .pointer (some ⟨N + 1 + 1, 0, none⟩)]) (by simp) (by simp [go_sem]) ?_
      refine (all1_any W _ N (N + 1 + 1) (N + 1 + 1 + 1) (N + 1) os ov (HJ.out.1.below hb) (by rw [HA.out]; exact Hld.apart_all _) hids (by omega) .returning).mono ?_
      rintro e u' w'' ⟨rfl, rfl, ao, cap, hE⟩
      have cN : w''.cell? ⟨N, 0, none⟩ = some (.slice ao os.length cap) := hE.res.cell 0
      have hlen : os.length = (Hld.allF (ids.zip recs)).length := by rw [← HA.out, List.length_map]
      refine ⟨.slice ao os.length cap, by simp [results, Try.results11, go_sem, cN], ao, cap, hoCs os, by rw [hlen], ?_, ?_, ?_, hE.low⟩
      · rw [← hlen]
        have hr := hE.row
        rw [List.take_length] at hr
        exact owns_base hr (HJ.out.1.below hb).low.size
      · rw [← HA.out]; exact end_rows (HJ.out.1.below hb) hE
      · rw [← hlen]; exact owns_cap hE.row


end Go.Proofs.Ytfokbcakbbdlaaa
