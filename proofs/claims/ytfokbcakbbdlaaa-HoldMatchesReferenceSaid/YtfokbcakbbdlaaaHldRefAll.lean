/- The reference's All. -/
import Derived.Test.YtfokbcakbbdlaaaHldRefOn
import Derived.Test.YtfokbcakbbdlaaaHldBackT
namespace Go.Proofs.Ytfokbcakbbdlaaa
open Go.RowKit
open Hld (Rc Hd)

namespace Hld
theorem gv_same (r : Rc) (h : Hd) : (gv r h).id = h.id ∧ (gv r h).vehicle = h.vehicle ∧ (gv r h).members = h.members := by
  unfold gv
  split
  · exact ⟨give_id r h, give_vehicle r h, give_members r h⟩
  · exact ⟨rfl, rfl, rfl⟩
theorem backF_same : ∀ (l : List (ByteArray × Rc)) (h : Hd), (backF l h).id = h.id ∧ (backF l h).vehicle = h.vehicle ∧ (backF l h).members = h.members
  | [], _ => ⟨rfl, rfl, rfl⟩
  | x :: l, h => by
    obtain ⟨a1, a2, a3⟩ := backF_same l (gv x.2 h)
    obtain ⟨b1, b2, b3⟩ := gv_same x.2 h
    exact ⟨a1.trans b1, a2.trans b2, a3.trans b3⟩
theorem backF_next {P : List (ByteArray × Rc)} {k j : Nat} (hk : k + 1 ≤ j) (hj : j < P.length) (h : Hd) : backF ((P.take (j + 1)).drop (k + 1)) h = gv P[j].2 (backF ((P.take j).drop (k + 1)) h) := by
  rw [List.take_succ_eq_append_getElem hj, List.drop_append_of_le_length (by rw [List.length_take]; omega), backF_snoc]
theorem backF_len : ∀ (l : List (ByteArray × Rc)) (h : Hd), (backF l h).back.length ≤ h.back.length + l.length
  | [], h => Nat.le_refl _
  | x :: l, h => by
    have h1 := backF_len l (gv x.2 h)
    have h2 : (gv x.2 h).back.length ≤ h.back.length + 1 := by
      unfold gv give
      split
      · split
        · simp
        · omega
      · omega
    have h3 : backF (x :: l) h = backF l (gv x.2 h) := rfl
    rw [h3, List.length_cons]
    omega
end Hld

set_option maxRecDepth 100000 in
set_option maxHeartbeats 16000000 in
theorem refAll_any (ids : List ByteArray) (recs : List Rc) (io ro : Option Addr) (ic rc : Nat) (hn : recs.length ≤ 1000) (hids : ∀ s ∈ ids, s.size ≤ 9223372036854775807) (hmem : ∀ r ∈ recs, r.members.length ≤ 1000) (hne : ids.length = recs.length) (W : World) (hi : IsStrs W io ids) (hr : IsRecs W ro recs) :
    Calls Try.prog 12 #[.slice io ids.length ic, .slice ro recs.length rc] W fun e w' => ∃ ao cap, e = .returned (.slice ao (Hld.allF (ids.zip recs)).length cap) ∧ IsHolds w' ao (Hld.allF (ids.zip recs)) ∧ Below W.heap.size W w' := by
  obtain ⟨i1, hi1, hy0, hy1, hy2⟩ := info_parts info_hold
  have HMd := Lib.hid (fun t ht w hw => refMade_any ids recs io ro ic rc (by omega) hne t ht w (IsStrs.below hi hw) (IsRecs.below hr hw))
  have HI := Lib.hid hi
  have HR := Lib.hid hr
  have HMm := Lib.hid hmem
  have HNe := Lib.hid hne
  obtain ⟨n, Hn⟩ : ∃ n, Hid (n = recs.length) := ⟨_, Lib.hid rfl⟩
  obtain ⟨P, HP⟩ : ∃ P, Hid (P = ids.zip recs) := ⟨_, Lib.hid rfl⟩
  have HPl : Hid (P.length = n) := Lib.hid (by rw [HP.out, List.length_zip, HNe.out, Nat.min_self]; exact Hn.out.symm)
  have HPt : Hid (∀ k (h1 : k < P.length) (h2 : k < ids.length) (h3 : k < recs.length), P[k] = (ids[k], recs[k])) := Lib.hid (fun k h1 h2 h3 => by simp only [HP.out, List.getElem_zip])
  rw [← HP.out, hne, ← Hn.out]
  rw [hne, ← Hn.out] at HMd
  rw [← Hn.out] at hn
  simp only [← HP.out] at HMd
  clear hi hr hmem hids hne
  go_enter Try.func12, Try.ntmps12
  go_wp2_with fail
  go_loopw [6, 5] (fun i o wr => ∃ (k m : Nat) (ao : Option Addr) (cap : Nat) (cs : List Value), k ≤ n ∧ m ≤ k ∧ i = .int .i64 k ∧ o = .slice ao m cap ∧ Hid (m = (Hld.refTo P k).length ∧ Below W.heap.size W wr ∧ wr.ownsRow W.heap.size 31 4 (.slice ao m cap) m cs ∧ HCs (IJ W wr) (Hld.refTo P k) cs)) (fun i _ _ => n - (intOf i).toNat)
  case atStart => exact ⟨0, 0, none, 0, [], Nat.zero_le _, Nat.le_refl _, by go_num, rfl, Lib.hid ⟨rfl, Below.refl _ _, World.ownsRow_nil _ _ _ _, rfl⟩⟩
  case round =>
    obtain ⟨k, m, ao, cap, cs, hk, hmk, rfl, rfl, HX⟩ := hrel
    by_cases hkn : k < n
    · have hd : decide ((k : Int) < n) = true := decide_eq_true (by omega)
      have hb0 : (0 : Int) ≤ k := by omega
      have hb1 : (k : Int) < n := by omega
      have hkr : k < recs.length := by rw [← Hn.out]; exact hkn
      have hki : k < ids.length := by rw [HNe.out]; exact hkr
      have hkP : k < P.length := by rw [HPl.out]; exact hkn
      have HMk := Lib.hid (HMd.out k hkP wr HX.out.2.1)
      obtain ⟨b, Hb⟩ : ∃ b, Hid (b = Hld.madeB (P.take k) P[k]) := ⟨_, Lib.hid rfl⟩
      rw [← Hb.out] at HMk
      have HOne : Hid (Hld.refTo P (k + 1) = Hld.refTo P k ++ if b then [Hld.backF (P.drop (k + 1)) ⟨ids[k], recs[k].name, recs[k].members, []⟩] else []) := Lib.hid (by
        rw [Hld.refTo_succ]
        unfold Hld.oneF
        rw [List.getElem?_eq_getElem hkP]
        dsimp only
        rw [← Hb.out, HPt.out k hkP hki hkr])
      go_wp2_with fail
      refine HMk.out.mono ?_
      rintro e w1 ⟨rfl, hb⟩
      have HB1 := Lib.hid (And.intro (below_step HX.out.2.1 hb) hb)
      clear hb
      cases b with
      | false =>
        have HG : Hid (Hld.refTo P (k + 1) = Hld.refTo P k) := Lib.hid (by rw [HOne.out, if_neg (by simp), List.append_nil])
        go_wp2_with fail
        go_round
        case rel => exact ⟨k + 1, m, ao, cap, cs, by omega, by omega, by go_num, rfl, Lib.hid ⟨by rw [HG.out]; exact HX.out.1, HB1.out.1, owns_below HX.out.2.2.1 HB1.out.2, by rw [HG.out]; exact HX.out.2.2.2.mono fun _ _ _ h => h.below HB1.out.2⟩⟩
        case measure => simp [intOf]; omega
      | true =>
        obtain ⟨bk, off, rfl, hbk, hrg, hok, hin⟩ := HR.out.at hkr
        obtain ⟨bi, ofi, rfl, hbi, hci⟩ := HI.out.at hki
        have HIn0 := Lib.hid hin
        obtain ⟨s, Hs⟩ : ∃ u, Hid (u = ids[k]) := ⟨_, Lib.hid rfl⟩
        obtain ⟨na, Hna⟩ : ∃ u, Hid (u = recs[k].name) := ⟨_, Lib.hid rfl⟩
        obtain ⟨ml, Hml⟩ : ∃ u, Hid (u = recs[k].members.length) := ⟨_, Lib.hid rfl⟩
        obtain ⟨mo, Hmo⟩ : ∃ u, Hid (u = recs[k].mo) := ⟨_, Lib.hid rfl⟩
        obtain ⟨mc, Hmc⟩ : ∃ u, Hid (u = recs[k].mc) := ⟨_, Lib.hid rfl⟩
        have c6 := hrg 6 _ hok.c6
        have c8 := hrg 8 _ hok.c8
        rw [← Hna.out] at c6
        rw [← Hml.out, ← Hmo.out, ← Hmc.out] at c8
        rw [← Hs.out] at hci
        have HS : Hid (∀ Y, Below W.heap.size W Y → Y.cell? ⟨bi, ofi + k, none⟩ = some (.string s) ∧ Y.cell? ⟨bk, off + k * 36 + 6, none⟩ = some (.string na) ∧ Y.cell? ⟨bk, off + k * 36 + 8, none⟩ = some (.slice mo ml mc)) := Lib.hid (fun Y hY => ⟨(cell_below hY hbi).trans hci, (cell_below hY hbk).trans c6, (cell_below hY hbk).trans c8⟩)
        have hS0 := HS.out w1 HB1.out.1
        clear c6 c8 hci hrg hok hin
        go_wp2_with fail
        go_region_held_law (fun w' => w'.cell? ⟨bi, ofi + k, none⟩ = some (.string s) ∧ w'.cell? ⟨bk, off + k * 36 + 6, none⟩ = some (.string na) ∧ w'.cell? ⟨bk, off + k * 36 + 8, none⟩ = some (.slice mo ml mc)) (first | exact hS0 | exact HS.out _ (HB1.out.1.drew) | exact HS.out _ (HB1.out.1.drew.alloc HB1.out.1.size _)) (fail)
        obtain ⟨gh, Hgh⟩ : ∃ g, Hid (g = w1.heap.size) := ⟨_, Lib.hid rfl⟩
        obtain ⟨w2, Hw2⟩ : ∃ w, Hid (w = (w1.alloc (.cells #[.string s, .string na, .slice mo ml mc, .slice none 0 0] 31)).drew) := ⟨_, Lib.hid rfl⟩
        have HB12 : Hid (Below w1.heap.size w1 w2) := Lib.hid (by rw [Hw2.out]; exact ((Below.refl _ _).alloc (Nat.le_refl _) _).drew)
        have HW2 : Hid (Whole w2 gh 31 #[.string s, .string na, .slice mo ml mc, .slice none 0 0]) := Lib.hid (by
          rw [Hw2.out, Hgh.out]
          exact Whole.new w1 31 #[.string s, .string na, .slice mo ml mc, .slice none 0 0])
        have hWg : W.heap.size ≤ gh := by rw [Hgh.out]; exact HB1.out.1.size
        rw [← Hw2.out, ← Hgh.out]
        clear hS0
        obtain ⟨h0, Hh0⟩ : ∃ h : Hd, Hid (h = ⟨s, na, recs[k].members, []⟩) := ⟨_, Lib.hid rfl⟩
        have hwk : IntKind.i64.wrap ((k : Int) + 1) = (k : Int) + 1 := by rw [IntKind.wrap_i64]; omega
        obtain ⟨F, HF⟩ : ∃ F : Nat → Hd, Hid (∀ j, F j = Hld.backF ((P.take j).drop (k + 1)) h0) := ⟨_, Lib.hid fun _ => rfl⟩
        have HFs : Hid (∀ j, (F j).id = s ∧ (F j).vehicle = na ∧ (F j).members = recs[k].members ∧ (F j).back.length ≤ 1000) := Lib.hid (fun j => by
          rw [HF.out j]
          obtain ⟨q1, q2, q3⟩ := Hld.backF_same ((P.take j).drop (k + 1)) h0
          have q4 := Hld.backF_len ((P.take j).drop (k + 1)) h0
          rw [Hh0.out] at q1 q2 q3 q4 ⊢
          refine ⟨q1, q2, q3, ?_⟩
          have h1 : ((P.take j).drop (k + 1)).length ≤ P.length := by rw [List.length_drop, List.length_take]; omega
          rw [HPl.out] at h1
          have h2 : (⟨s, na, recs[k].members, []⟩ : Hd).back.length = 0 := rfl
          omega)
        have HF0 : Hid (F (k + 1) = h0) := Lib.hid (by
          rw [HF.out, List.drop_eq_nil_of_le (by rw [List.length_take]; omega)]
          rfl)
        have HFn : Hid (F n = Hld.backF (P.drop (k + 1)) h0) := Lib.hid (by rw [HF.out, List.take_of_length_le (by rw [HPl.out]; exact Nat.le_refl _)])
        have HFx : Hid (∀ j (h1 : k + 1 ≤ j) (h2 : j < P.length), F (j + 1) = Hld.gv P[j].2 (F j)) := Lib.hid (fun j h1 h2 => by rw [HF.out, HF.out]; exact Hld.backF_next h1 h2 h0)
        have HBase := Lib.hid (And.intro (below_step HB1.out.1 HB12.out) (And.intro (owns_below HX.out.2.2.1 (below_step HB1.out.2 HB12.out)) (HX.out.2.2.2.mono fun _ _ _ h => h.below (below_step HB1.out.2 HB12.out))))
        have HneR : Hid ((Value.slice ao m cap).ownBlock ≠ some gh) := Lib.hid (fun e => by
          have := ((owns_below HX.out.2.2.1 HB1.out.2).lt _ e).2
          rw [← Hgh.out] at this
          omega)
        go_wp2_with fail
        go_loopw [8] (fun i wr => ∃ (j bl : Nat) (bo : Option Addr) (bc : Nat), k + 1 ≤ j ∧ j ≤ n ∧ i = .int .i64 j ∧ Hid (bl = (F j).back.length ∧ Below W.heap.size W wr ∧ Whole wr gh 31 #[.string s, .string na, .slice mo ml mc, .slice bo bl bc] ∧ IJ W wr bo bc (F j).back ∧ wr.ownsRow W.heap.size 31 4 (.slice ao m cap) m cs ∧ HCs (IJ W wr) (Hld.refTo P k) cs)) (fun i _ => n - (intOf i).toNat)
        case atStart =>
          refine ⟨k + 1, 0, none, 0, Nat.le_refl _, by omega, by go_num, Lib.hid ⟨?_, HBase.out.1, HW2.out, ?_, HBase.out.2.1, HBase.out.2.2⟩⟩
          · rw [HF0.out, Hh0.out]; rfl
          · rw [HF0.out, Hh0.out]; exact Or.inl (Or.inl rfl)
        case round =>
          obtain ⟨j, bl, bo, bc, hkj, hj, rfl, HY⟩ := hrel
          have HWr := Lib.hid HY.out.2.2.1
          have HBr := Lib.hid HY.out.2.1
          have HFj := Lib.hid (HFs.out j)
          by_cases hjn : j < n
          · have hd2 : decide ((j : Int) < (n : Int)) = true := decide_eq_true (by omega)
            have ha0 : (0 : Int) ≤ j := by omega
            have ha1 : (j : Int) < n := by omega
            have hjr : j < recs.length := by rw [← Hn.out]; exact hjn
            have hji : j < ids.length := by rw [HNe.out]; exact hjr
            have hjP : j < P.length := by rw [HPl.out]; exact hjn
            obtain ⟨bk', off', e1, hbk', hrg, hok, -⟩ := HR.out.at hjr
            obtain ⟨rfl, rfl⟩ : bk = bk' ∧ off = off' := by simpa using e1
            obtain ⟨kd, Hkd⟩ : ∃ u, Hid (u = recs[j].kind) := ⟨_, Lib.hid rfl⟩
            obtain ⟨au, Hau⟩ : ∃ u, Hid (u = recs[j].author) := ⟨_, Lib.hid rfl⟩
            obtain ⟨ta, Hta⟩ : ∃ u, Hid (u = recs[j].target) := ⟨_, Lib.hid rfl⟩
            have c0 := hrg 0 _ hok.c0
            have c1 := hrg 1 _ hok.c1
            have c5 := hrg 5 _ hok.c5
            rw [Nat.add_zero, ← Hkd.out] at c0
            rw [← Hau.out] at c1
            rw [← Hta.out] at c5
            have gz0 : ∀ X : Grown wr, X.w.cell? ⟨bk, off + j * 36, none⟩ = some (.int .i64 kd) := fun X => (cell_below (below_step HBr.out X.below) hbk).trans c0
            have gz1 : ∀ X : Grown wr, X.w.cell? ⟨bk, off + j * 36 + 1, none⟩ = some (.int .i64 au) := fun X => (cell_below (below_step HBr.out X.below) hbk).trans c1
            have gz5 : ∀ X : Grown wr, X.w.cell? ⟨bk, off + j * 36 + 5, none⟩ = some (.string ta) := fun X => (cell_below (below_step HBr.out X.below) hbk).trans c5
            have gh0 : ∀ X : Grown wr, X.w.cell? ⟨gh, 0, none⟩ = some (.string s) := fun X => by rw [X.cell HWr.out.lt]; exact HWr.out.cell 0
            have gh2 : ∀ X : Grown wr, X.w.cell? ⟨gh, 2, none⟩ = some (.slice mo ml mc) := fun X => by rw [X.cell HWr.out.lt]; exact HWr.out.cell 2
            have gh3 : ∀ X : Grown wr, X.w.cell? ⟨gh, 3, none⟩ = some (.slice bo bl bc) := fun X => by rw [X.cell HWr.out.lt]; exact HWr.out.cell 3
            have HC1 : Hid (∀ X : Grown wr, Calls Try.prog 18 #[.slice mo ml mc, .int .i64 au] X.w fun e w' => e = .returned (.bool (recs[k].members.contains au)) ∧ X.w = w') := Lib.hid (fun X => by
              have := HMm.out _ (List.getElem_mem hkr)
              rw [Hml.out]
              exact in_any mo _ mc au (by omega) X.w (by rw [Hmo.out]; exact HIn0.out.below (below_step HBr.out X.below)))
            have HC2 : Hid (∀ X : Grown wr, Calls Try.prog 18 #[.slice bo bl bc, .int .i64 au] X.w fun e w' => e = .returned (.bool ((F j).back.contains au)) ∧ X.w = w') := Lib.hid (fun X => by
              have := HFj.out.2.2.2
              rw [HY.out.1]
              exact in_any bo _ bc au (by omega) X.w ((HY.out.2.2.2.1.ints HBr.out).below X.below))
            obtain ⟨cm, Hcm⟩ : ∃ c, Hid (c = recs[k].members.contains au) := ⟨_, Lib.hid rfl⟩
            obtain ⟨cb, Hcb⟩ : ∃ c, Hid (c = (F j).back.contains au) := ⟨_, Lib.hid rfl⟩
            rw [← Hcm.out] at HC1
            rw [← Hcb.out] at HC2
            have HGv : Hid (F (j + 1) = if kd = 6 then (if (decide (ta = s) && (cm && !cb)) then { F j with back := (F j).back ++ [au] } else F j) else F j) := Lib.hid (by
              rw [HFx.out j hkj hjP, HPt.out j hjP hji hjr]
              unfold Hld.gv Hld.give Hld.gives
              dsimp only
              obtain ⟨q1, q2, q3, q4⟩ := HFj.out
              rw [← Hkd.out, ← Hta.out, ← Hau.out, q1, q3, ← Hcm.out, ← Hcb.out])
            have HSame : Hid (F (j + 1) = F j → ∀ X : Grown wr, bl = (F (j + 1)).back.length ∧ Below W.heap.size W X.w ∧ Whole X.w gh 31 #[.string s, .string na, .slice mo ml mc, .slice bo bl bc] ∧ IJ W X.w bo bc (F (j + 1)).back ∧ X.w.ownsRow W.heap.size 31 4 (.slice ao m cap) m cs ∧ HCs (IJ W X.w) (Hld.refTo P k) cs) := Lib.hid (fun e X => by
              obtain ⟨q1, q2, q3, q4, q5, q6⟩ := HY.out
              rw [e]
              exact ⟨q1, below_step q2 X.below, whole_below q3 X.below, q4.below X.below, owns_below q5 X.below, q6.mono fun _ _ _ h => h.below X.below⟩)
            clear c0 c5 hrg hok e1
            by_cases h6 : kd = 6
            case neg =>
              have e6 : (kd == 6) = false := by simpa using h6
              have HN := Lib.hid (HSame.out (by rw [HGv.out, if_neg h6]))
              clear h6
              go_wp2_with fail
              refine wp_region_grown (by kernel_rfl) (by kernel_rfl) ?_
              repeat (go_big_quiet_step (fail))
              refine wpQuiet_nil ?_
              rintro _ ⟨X, rfl⟩
              go_wp2_with fail
              go_round
              case rel => exact ⟨j + 1, bl, bo, bc, by omega, by omega, by go_num, Lib.hid (HN.out X)⟩
              case measure => simp [intOf]; omega
            have e6 : (kd == 6) = true := by simpa using h6
            by_cases ht : ta = s
            case neg =>
              have et := bytes_ne ht
              have HN := Lib.hid (HSame.out (by rw [HGv.out, if_pos h6, decide_eq_false ht]; rfl))
              clear h6 ht
              go_wp2_with fail
              refine wp_region_grown (by kernel_rfl) (by kernel_rfl) ?_
              repeat (go_big_quiet_step (fail))
              refine wpQuiet_nil ?_
              rintro _ ⟨X, rfl⟩
              go_wp2_with fail
              go_round
              case rel => exact ⟨j + 1, bl, bo, bc, by omega, by omega, by go_num, Lib.hid (HN.out X)⟩
              case measure => simp [intOf]; omega
            have et : (ta.toList == s.toList) = true := by rw [ht]; exact beq_self_eq_true _
            rw [if_pos h6, decide_eq_true ht, Bool.true_and] at HGv
            clear h6 ht
            cases cm with
            | false =>
              have HN := Lib.hid (HSame.out (by rw [HGv.out]; rfl))
              go_wp2_with fail
              refine wp_region_grown (by kernel_rfl) (by kernel_rfl) ?_
              repeat (go_big_quiet_step (exact grown_of_same (HC1.out _)))
              refine wpQuiet_nil ?_
              rintro _ ⟨X, rfl⟩
              go_wp2_with fail
              go_round
              case rel => exact ⟨j + 1, bl, bo, bc, by omega, by omega, by go_num, Lib.hid (HN.out X)⟩
              case measure => simp [intOf]; omega
            | true =>
            cases cb with
            | true =>
              have HN := Lib.hid (HSame.out (by rw [HGv.out]; rfl))
              go_wp2_with fail
              refine wp_region_grown (by kernel_rfl) (by kernel_rfl) ?_
              iterate 25 (go_big_quiet_step (exact grown_of_same (HC1.out _)))
              repeat (go_big_quiet_step (exact grown_of_same (HC2.out _)))
              refine wpQuiet_nil ?_
              rintro _ ⟨X, rfl⟩
              go_wp2_with fail
              go_round
              case rel => exact ⟨j + 1, bl, bo, bc, by omega, by omega, by go_num, Lib.hid (HN.out X)⟩
              case measure => simp [intOf]; omega
            | false =>
              go_wp2_with fail
              refine wp_region_grown (by kernel_rfl) (by kernel_rfl) ?_
              iterate 25 (go_big_quiet_step (exact grown_of_same (HC1.out _)))
              repeat (go_big_quiet_step (exact grown_of_same (HC2.out _)))
              refine wpQuiet_nil ?_
              rintro _ ⟨X, rfl⟩
              go_wp2_with fail
              obtain ⟨V, HV⟩ : ∃ V, Hid (V = X.w) := ⟨_, Lib.hid rfl⟩
              have HVB : Hid (Below wr.heap.size wr V) := Lib.hid (by rw [HV.out]; exact X.below)
              rw [← HV.out]
              have HVh := Lib.hid (whole_below HWr.out HVB.out)
              have HVi := Lib.hid ((HY.out.2.2.2.1.below HVB.out).ints (below_step HBr.out HVB.out))
              have HVc : Hid (V.cell? ⟨bk, off + j * 36 + 1, none⟩ = some (.int .i64 au)) := Lib.hid ((cell_below (below_step HBr.out HVB.out) hbk).trans c1)
              have hgV := HVh.out.lt
              have hbg : bk ≠ gh := by omega
              have hbV : bk < V.heap.size := Nat.lt_of_lt_of_le hbk (below_step HBr.out HVB.out).size
              have hbl : bl ≤ 1000 := by rw [HY.out.1]; exact HFj.out.2.2.2
              apply wp_region_ent 102 (BkR V gh (.string s) (.string na) (.slice mo ml mc) bo bl bc (F j).back au (bkPv gh bk off j n rc bo bl bc au)) (by kernel_rfl) (by kernel_rfl) rfl (BkR.start HVh.out)
              · intro i o ho e w A' hT hei hwt hsee haway
                have h7 : A'.eval (.tmp 7) = .pointer (some ⟨gh, 0, none⟩) := (haway 7 (by kernel_rfl)).trans rfl
                have h1 : A'.eval (.tmp 1) = .slice (some ⟨bk, off, none⟩) n rc := (haway 1 (by kernel_rfl)).trans rfl
                have h8 : A'.eval (.tmp 8) = .int .i64 j := (haway 8 (by kernel_rfl)).trans rfl
                have hcell : w.cell? ⟨bk, off + j * 36 + 1, none⟩ = some (.int .i64 au) := (cell_far (N := gh) (fun b q1 q2 => hT.grown.block b q1 (fun e2 => q2 (Option.some.inj e2))) hbV hbg).trans HVc.out
                have hi : i < 13 := by have := (List.getElem?_eq_some_iff.1 ho).1; simpa using this
                have hi : i = 0 ∨ i = 1 ∨ i = 2 ∨ i = 3 ∨ i = 4 ∨ i = 5 ∨ i = 6 ∨ i = 7 ∨ i = 8 ∨ i = 9 ∨ i = 10 ∨ i = 11 ∨ i = 12 := by omega
                rcases hi with rfl | rfl | rfl | rfl | rfl | rfl | rfl | rfl | rfl | rfl | rfl | rfl | rfl
                all_goals
                  simp only [List.getElem?_cons_succ, List.getElem?_cons_zero, Option.some.injEq] at ho
                  subst ho
                · exact wp_of_run (run_empty_ints _ _ _ _ _ _ _) ⟨_, rfl, hT.step (by decide) (by decide) ((Below.refl _ _).alloc (Nat.le_refl _) _) (fun _ => ⟨_, rfl, hT.grown.size, Whole.new _ _ _⟩) (fun h => absurd h (by decide)) (fun h => absurd h (by decide)) (fun h => absurd h (by decide)) trivial⟩
                · exact wp_of_run (run_field_back _ _ _ _ _ _ _ 7 gh h7) ⟨_, rfl, hT.step (by decide) (by decide) (Below.refl _ _) (fun h => absurd h (by decide)) (fun h => absurd h (by decide)) (fun h => absurd h (by decide)) (fun h => absurd h (by decide)) rfl⟩
                · have q := hT.pure 1 _ (hsee 86 (by decide) 1 rfl)
                  exact wp_of_run (run_load_one _ _ _ _ _ _ _ _ (Or.inr rfl) 86 _ _ q ((hT.hold (hT.unstored hei)).cell 3)) ⟨_, rfl, hT.step (by decide) (by decide) (Below.refl _ _) (fun h => absurd h (by decide)) (fun h => absurd h (by decide)) (fun h => absurd h (by decide)) (fun h => absurd h (by decide)) rfl⟩
                · have e0 := hsee 85 (by decide) 0 rfl
                  have e2 := hsee 87 (by decide) 2 rfl
                  by_cases hC : e 10 = none
                  · obtain ⟨g0, q1, q2, q3⟩ := hT.empty hC _ e0
                    have q4 : A'.eval (.tmp 87) = .slice bo bl bc := hT.pure 2 _ e2
                    have hin2 : IsInts w bo (F j).back := by
                      rcases HVi.out with h | ⟨bb, ob, hb1, hb2, hb3⟩
                      · exact Or.inl h
                      · refine Or.inr ⟨bb, ob, hb1, Nat.lt_of_lt_of_le hb2 hT.grown.size, fun x hx => ?_⟩
                        by_cases hbb : bb = gh
                        · subst hbb
                          exfalso
                          have := hb3 0 (by omega)
                          rw [HVh.out.cell] at this
                          revert this
                          rcases ob with _ | _ | _ | _ | ob <;> simp
                        · exact (cell_far (N := gh) (fun b q1 q2 => hT.grown.block b q1 (fun e2 => q2 (Option.some.inj e2))) hb2 hbb).trans (hb3 x hx)
                    obtain ⟨v, w', hr, r1, r2⟩ := run_copy_ints 29 g0 q3 V.heap.size q2 (F j).back bl HY.out.1 (by omega) bo bc hin2
                    exact wp_of_run (run_append_int _ _ _ _ _ _ _ w' 85 87 _ _ _ q1 q4 hr) ⟨_, rfl, hT.step (by decide) (by decide) r2 (fun h => absurd h (by decide)) (fun _ => r1) (fun h => absurd h (by decide)) (fun _ => by rw [e2]; simp) trivial⟩
                  · exact absurd hei (hT.two hC).1
                · exact wp_of_run (run_move' _ _ _ _ _ _ _ 1 _ h1) ⟨_, rfl, hT.step (by decide) (by decide) (Below.refl _ _) (fun h => absurd h (by decide)) (fun h => absurd h (by decide)) (fun h => absurd h (by decide)) (fun h => absurd h (by decide)) rfl⟩
                · exact wp_of_run (run_move' _ _ _ _ _ _ _ 8 _ h8) ⟨_, rfl, hT.step (by decide) (by decide) (Below.refl _ _) (fun h => absurd h (by decide)) (fun h => absurd h (by decide)) (fun h => absurd h (by decide)) (fun h => absurd h (by decide)) rfl⟩
                · have q4 := hT.pure 4 _ (hsee 89 (by decide) 4 rfl)
                  have q5 := hT.pure 5 _ (hsee 90 (by decide) 5 rfl)
                  exact wp_of_run (run_index_rec _ _ _ _ _ _ _ 89 90 bk off n rc j hjn q4 q5) ⟨_, rfl, hT.step (by decide) (by decide) (Below.refl _ _) (fun h => absurd h (by decide)) (fun h => absurd h (by decide)) (fun h => absurd h (by decide)) (fun h => absurd h (by decide)) rfl⟩
                · have q6 := hT.pure 6 _ (hsee 91 (by decide) 6 rfl)
                  exact wp_of_run (run_field_auth _ _ _ _ _ _ _ 91 bk _ q6) ⟨_, rfl, hT.step (by decide) (by decide) (Below.refl _ _) (fun h => absurd h (by decide)) (fun h => absurd h (by decide)) (fun h => absurd h (by decide)) (fun h => absurd h (by decide)) rfl⟩
                · have q7 := hT.pure 7 _ (hsee 92 (by decide) 7 rfl)
                  exact wp_of_run (run_load_one _ _ _ _ _ _ _ _ (Or.inl rfl) 92 _ _ q7 hcell) ⟨_, rfl, hT.step (by decide) (by decide) (Below.refl _ _) (fun h => absurd h (by decide)) (fun h => absurd h (by decide)) (fun h => absurd h (by decide)) (fun h => absurd h (by decide)) rfl⟩
                · have q8 := hT.pure 8 _ (hsee 93 (by decide) 8 rfl)
                  exact wp_of_run (run_one_int _ _ _ _ _ _ _ 93 au q8) ⟨_, rfl, hT.step (by decide) (by decide) ((Below.refl _ _).alloc (Nat.le_refl _) _) (fun h => absurd h (by decide)) (fun h => absurd h (by decide)) (fun _ => ⟨_, rfl, Whole.new _ _ _⟩) (fun h => absurd h (by decide)) trivial⟩
                · have e3 := hsee 88 (by decide) 3 rfl
                  have e9 := hsee 94 (by decide) 9 rfl
                  have q3 := hT.copy hei _ e3
                  obtain ⟨g1, q9, q10⟩ := hT.one hei _ e9
                  obtain ⟨v, w', hr, r1, r2⟩ := bk_append 29 (by omega) hT.grown.size q3 q10
                  exact wp_of_run (run_append_int _ _ _ _ _ _ _ w' 88 94 _ _ _ rfl q9 hr) ⟨_, rfl, hT.grow hgV hei (by rw [e3]; simp) (by rw [e9]; simp) q3 r2 r1 trivial⟩
                · exact wp_of_run (run_field_back _ _ _ _ _ _ _ 7 gh h7) ⟨_, rfl, hT.step (by decide) (by decide) (Below.refl _ _) (fun h => absurd h (by decide)) (fun h => absurd h (by decide)) (fun h => absurd h (by decide)) (fun h => absurd h (by decide)) rfl⟩
                · have e10 := hsee 95 (by decide) 10 rfl
                  have q11 := hT.pure 11 _ (hsee 96 (by decide) 11 rfl)
                  obtain ⟨ao2, c2, hs2⟩ := owns_shape (hT.new _ e10)
                  rw [hs2] at e10
                  exact wp_of_skip (run_store_back _ _ _ _ _ _ _ 96 95 gh _ _ _ _ _ (hT.hold hei) (by simp) q11 hs2) ⟨_, rfl, hT.store hgV hei e10 trivial⟩
              intro e w hT hall
              obtain ⟨v0, h0'⟩ := hall 0 (by decide)
              obtain ⟨v1, h1'⟩ := hall 1 (by decide)
              obtain ⟨v2, h2'⟩ := hall 2 (by decide)
              obtain ⟨v3, h3'⟩ := hall 3 (by decide)
              obtain ⟨v4, h4'⟩ := hall 4 (by decide)
              obtain ⟨v5, h5'⟩ := hall 5 (by decide)
              obtain ⟨v6, h6'⟩ := hall 6 (by decide)
              obtain ⟨v7, h7'⟩ := hall 7 (by decide)
              obtain ⟨v8, h8'⟩ := hall 8 (by decide)
              obtain ⟨v9, h9'⟩ := hall 9 (by decide)
              obtain ⟨v10, h10'⟩ := hall 10 (by decide)
              obtain ⟨v11, h11'⟩ := hall 11 (by decide)
              obtain ⟨v12, h12'⟩ := hall 12 (by decide)
              obtain ⟨vn, hvn, hWn⟩ := hT.done _ h12'
              have hrow := hT.new _ hvn
              obtain ⟨bo2, bc2, rfl⟩ := owns_shape hrow
              have HEnd : Hid (bl + 1 = (F (j + 1)).back.length ∧ Below W.heap.size W w ∧ Whole w gh 31 #[.string s, .string na, .slice mo ml mc, .slice bo2 (bl + 1) bc2] ∧ IJ W w bo2 bc2 (F (j + 1)).back ∧ w.ownsRow W.heap.size 31 4 (.slice ao m cap) m cs ∧ HCs (IJ W w) (Hld.refTo P k) cs) := Lib.hid (by
                obtain ⟨q1, q2, q3, q4, q5, q6⟩ := HY.out
                have hBV := below_step q2 HVB.out
                have hFn : (F (j + 1)).back = (F j).back ++ [au] := by rw [HGv.out]; rfl
                have hIJ : ∀ a c zs, IJ W V a c zs → IJ W w a c zs := fun a c zs h => by
                  rcases h with h | h
                  · exact Or.inl h
                  · exact Or.inr (h.kept hT.grown (Or.inr (owns_whole h HVh.out (by decide))))
                refine ⟨by rw [hFn, List.length_append, ← q1]; rfl, hBV.grown hT.grown hBV.size (fun x e2 => by cases e2; exact hWg), hWn, ?_, (owns_below q5 HVB.out).kept hT.grown (Or.inr HneR.out), q6.mono fun _ _ _ h => hIJ _ _ _ (h.below HVB.out)⟩
                refine Or.inr ?_
                have hl : ((F j).back ++ [au]).length = bl + 1 := by rw [List.length_append, ← q1]; rfl
                have hz : intsC ((F j).back ++ [au]) = intsC (F j).back ++ [.int .i64 au] := by unfold intsC; rw [List.map_append]; rfl
                rw [hFn, hl, hz]
                exact owns_base hrow hBV.size)
              simp only [List.length_cons, List.length_nil, Nat.reduceAdd, fillTo, h0', h1', h2', h3', h4', h5', h6', h7', h8', h9', h10', h11', h12', dstOf]
              clear hT hall h0' h1' h2' h3' h4' h5' h6' h7' h8' h9' h10' h11' h12' hvn hWn hrow
              go_wp2_with fail
              go_round
              case rel => exact ⟨j + 1, bl + 1, bo2, bc2, by omega, by omega, by go_num, HEnd⟩
              case measure => simp [intOf]; omega
          · obtain rfl : j = n := by omega
            have hd2 : decide ((j : Int) < (j : Int)) = false := decide_eq_false (by omega)
            have k0 := HWr.out.cell 0
            have k1 := HWr.out.cell 1
            have k2 := HWr.out.cell 2
            have k3 := HWr.out.cell 3
            simp only [List.getElem?_toArray, List.getElem?_cons_zero, List.getElem?_cons_succ] at k0 k1 k2 k3
            have HOw := Lib.hid HY.out.2.2.2.2.1
            have hzW : W.heap.size ≤ (wr.alloc (.cells #[.string s, .string na, .slice mo ml mc, .slice bo bl bc] 31)).heap.size := by rw [size_alloc]; have := HBr.out.size; omega
            have HNw : Hid (∀ (i : Nat) (x : Value), [Value.string s, Value.string na, Value.slice mo ml mc, Value.slice bo bl bc][i]? = some x → (wr.alloc (.cells #[.string s, .string na, .slice mo ml mc, .slice bo bl bc] 31)).cell? ((⟨wr.heap.size, 0, none⟩ : Addr).add i) = some x) := Lib.hid (by
              intro i x hx
              have e : (⟨wr.heap.size, 0, none⟩ : Addr).add i = ⟨wr.heap.size, i, none⟩ := by unfold Addr.add; split <;> simp_all
              rw [e, cell_alloc, if_pos rfl]
              simpa using hx)
            go_wp2_with (at_builtin; refine wpList_append_own _ rfl _ _ 26 rfl W.heap.size 31 i1 (.agg #[.string ⟨#[]⟩, .string ⟨#[]⟩, .slice none 0 0, .slice none 0 0]) 4 80 Try.underlying26 hi1 hy0 hy1 hy2 rfl (by decide) _ _ _ rfl (HOw.out.alloc _) ⟨wr.heap.size, 0, none⟩ 1 1 [.string s, .string na, .slice mo ml mc, .slice bo bl bc] rfl rfl HNw.out (by simp [Value.oneCell']) (by unfold maxLen; omega) (by omega) hzW ?_; intro v' w9 hown hgrow _; obtain ⟨vo, vc, rfl⟩ := owns_shape hown; have HW9 := Lib.hid hown; have HG9 := Lib.hid (show ∀ a c zs, IJ W wr a c zs → IJ W w9 a c zs from fun a c zs h => (h.below ((Below.refl _ _).alloc (Nat.le_refl _) _)).grown (HOw.out.alloc _) hgrow); have HB9 : Hid (Below W.heap.size W w9) := Lib.hid ((HBr.out.alloc HBr.out.size _).grown hgrow hzW (fun j e => (HOw.out.lt j e).1)); clear hown hgrow)
            go_round
            case rel =>
              have hO := HOne.out
              simp only [if_true] at hO
              have hE : Hld.backF (P.drop (k + 1)) ⟨ids[k], recs[k].name, recs[k].members, []⟩ = F j := by rw [HFn.out, Hh0.out, Hs.out, Hna.out]
              rw [hE] at hO
              refine ⟨k + 1, m + 1, vo, vc, _, by omega, by omega, by go_num, rfl, Lib.hid ⟨by rw [hO, List.length_append, ← HX.out.1]; rfl, HB9.out, HW9.out, ?_⟩⟩
              obtain ⟨q1, q2, q3, _⟩ := HFj.out
              have hS := (HY.out.2.2.2.2.2.mono HG9.out).snoc (h := F j) (mo := mo) (mc := mc) (bo := bo) (bc := bc) (by rw [q3]; exact Or.inl (by rw [Hmo.out]; exact HIn0.out)) (HG9.out _ _ _ HY.out.2.2.2.1)
              rw [q1, q2, q3, ← Hml.out, ← HY.out.1] at hS
              rw [hO]
              exact hS
            case measure => simp [intOf]; omega
    · obtain rfl : k = n := by omega
      have hd : decide ((k : Int) < k) = false := decide_eq_false (by omega)
      have hP : Hid (Hld.refTo P k = Hld.allF P) := Lib.hid (by rw [← Hld.ref_all P, HPl.out])
      have HmL := Lib.hid HX.out.1
      have HFi := Lib.hid (holds_of_row HX.out.1 HX.out.2.2.1 HX.out.2.2.2 HX.out.2.1)
      rw [hP.out] at HmL HFi
      go_wp2_with fail
      go_ret
      exact ⟨ao, cap, by rw [← HmL.out]; rfl, HFi.out, HX.out.2.1⟩

end Go.Proofs.Ytfokbcakbbdlaaa
