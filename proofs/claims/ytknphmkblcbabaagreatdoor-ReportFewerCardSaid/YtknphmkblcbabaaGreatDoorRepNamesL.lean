/- report.names. -/
import Derived.Test.YtknphmkblcbabaaGreatDoorRepNamesW
namespace Go.Proofs.YtknphmkblcbabaaGreatDoor
open Go.RowKit Go.Sort
open Evt

theorem OwnS.news {B : Nat} {w : World} {v : Value} {ss : List (List UInt8)} (h : OwnS B w v ss) (hne : ss ≠ []) : ∃ g c, v = .slice (some ⟨g, 0, none⟩) ss.length c ∧ ∀ (j : Nat) (u : Value), (ss.map encStr)[j]? = some u → w.cell? ((⟨g, 0, none⟩ : Addr).add j) = some u := by
  have h' := h
  rcases h.2 with ⟨_, hnil⟩ | ⟨g, cap, cur, rfl, hbase, hb, h1, h2, h3, h4⟩
  · exact absurd (List.eq_nil_of_length_eq_zero hnil) hne
  · refine ⟨g, cap, rfl, fun j u hu => ?_⟩
    have hw : Whole w g 9 cur := hb
    have hj : j < ss.length := by have := (List.getElem?_eq_some_iff.1 hu).1; simpa using this
    rw [ptr_add0, hw.cell, ← Array.getElem?_toList]
    rw [← h4, List.getElem?_take_of_lt (by omega)] at hu
    exact hu
set_option maxRecDepth 100000 in
set_option maxHeartbeats 8000000 in
theorem names_any (ao : Option Addr) (l : List Ev) (c : Nat) (hl : l.length ≤ 4) (hv : ∀ e ∈ l, Evt.valid e = true) (W : World) (hi : IsL 14 ElEv W ao l) :
    Calls Tryz.prog 39 #[.slice ao l.length c] W fun e w' => ∃ v, e = .returned v ∧ OwnS W.heap.size w' v (Lib.compact (srt (namesL l))) ∧ Below W.heap.size W w' := by
  obtain ⟨i1, hi1, hy0, hy1, hy2⟩ := infoP info_strE
  have HI := Lib.hid hi
  have HVl := Lib.hid hv
  have HSp := Lib.hid ev_size
  clear hi hv
  obtain ⟨n, Hn⟩ : ∃ n, Hid (n = l.length) := ⟨_, Lib.hid rfl⟩
  rw [← Hn.out]
  rw [← Hn.out] at hl
  go_enter Tryz.func39, Tryz.ntmps39
  go_wp2_with fail
  go_loopw [3, 8] (fun sv i wr => ∃ (k : Nat) (lv : Value), k ≤ n ∧ sv = lv ∧ i = .int .i64 k ∧ Hid (Below W.heap.size W wr ∧ OwnS W.heap.size wr lv (namesL (l.take k)))) (fun _ i _ => n - (intOf i).toNat)
  case atStart => exact ⟨0, _, Nat.zero_le _, rfl, by go_num, Lib.hid ⟨Below.refl _ _, OwnS.nil _ _⟩⟩
  case round =>
    obtain ⟨k, lv, hk, hlv, rfl, HR⟩ := hrel
    replace hlv := hlv.symm
    subst hlv
    by_cases hkn : k < n
    · have hd : decide ((k : Int) < n) = true := decide_eq_true (by omega)
      have hb0 : (0 : Int) ≤ k := by omega
      have hb1 : (k : Int) < n := by omega
      have hkl : k < l.length := by rw [← Hn.out]; exact hkn
      obtain ⟨bk, off, cs, rfl, hbk, hrg, rfl, hsz⟩ := HI.out.at hkl
      obtain ⟨y, Hy⟩ : ∃ m, Hid (m = l[k]) := ⟨_, Lib.hid rfl⟩
      rw [← Hy.out] at hrg hsz
      have HRg := Lib.hid (rangeB hrg hbk HR.out.1)
      have HOne := Lib.hid (evC_one y)
      have HSy := Lib.hid hsz
      have HVy : Hid (Evt.valid y = true) := Lib.hid (by rw [Hy.out]; exact HVl.out _ (List.getElem_mem hkl))
      obtain ⟨U, HU⟩ : ∃ w, Hid (w = wr.alloc (.cells (evC y).toArray 51)) := ⟨_, Lib.hid rfl⟩
      obtain ⟨g, Hg⟩ : ∃ g, Hid (g = wr.heap.size) := ⟨_, Lib.hid rfl⟩
      have HWU : Hid (Whole U g 51 (evC y).toArray) := Lib.hid (by rw [HU.out, Hg.out]; exact Whole.new _ _ _)
      have HBU : Hid (Below wr.heap.size wr U) := Lib.hid (by rw [HU.out]; exact (Below.refl _ _).alloc (Nat.le_refl _) _)
      have HBWU := Lib.hid (below_step HR.out.1 HBU.out)
      have HCn := Lib.hid (evNames_any y hsz U)
      obtain ⟨X, HX⟩ : ∃ X, Hid (X = namesL (l.take k)) := ⟨_, Lib.hid rfl⟩
      obtain ⟨Y, HY⟩ : ∃ X, Hid (X = namesE y) := ⟨_, Lib.hid rfl⟩
      have HXY : Hid (namesL (l.take (k + 1)) = X ++ Y) := Lib.hid (by
        rw [HX.out, HY.out, Hy.out]; unfold namesL
        rw [← List.take_append_getElem hkl, List.flatMap_append]; simp)
      have hXl : X.length ≤ 8 := by
        have := namesL_len (l.take k); rw [← HX.out, List.length_take] at this; omega
      have hYl : Y.length ≤ 2 := by rw [HY.out]; exact namesE_len y
      have HYp : Hid (Y ≠ []) := Lib.hid (fun e => by have := namesE_pos HVy.out; rw [← HY.out, e] at this; simp at this)
      rw [← HY.out] at HCn
      have HOx : Hid (OwnS W.heap.size U lv X) := Lib.hid (by rw [HX.out]; exact HR.out.2.below HBU.out)
      clear hrg hsz hbk
      go_wp2_with (first
        | (with_reducible show wpList _ _ _ (Oper.mk _ (Op.load 51 _) _ _ _ _ :: _) _ _; refine wpList_load_mid rfl _ _ rfl bk (off + k * 14) rfl _ _ HRg.out Tryz.underlying51 rfl (HSp.out.trans rfl) ?_)
        | (with_reducible show wpList _ _ _ (Oper.mk _ (Op.store 51 _ _) _ _ _ _ :: _) _ _; refine Hid.out ?_))
      refine Lib.hid ?_
      refine wpList_store_new rfl _ _ _ rfl _ (evC y).toArray rfl rfl (HSp.out.trans rfl) rfl HOne.out ?_
      rw [← HU.out, ← Hg.out]
      go_simp
      go_wp2_with (first
        | (with_reducible show wpList _ _ _ (Oper.mk _ (Op.load 51 _) _ _ _ _ :: _) _ _; refine wpList_load_mid rfl _ _ rfl g 0 rfl _ _ HWU.out.range Tryz.underlying51 rfl (HSp.out.trans rfl) ?_))
      refine HCn.out.mono ?_
      rintro e w3 ⟨v3, rfl, ho3, hb3⟩
      have HB3 := Lib.hid (below_step HBWU.out hb3)
      have HO3 := Lib.hid (HOx.out.below hb3)
      obtain ⟨g3, c3, rfl, hnews⟩ := ho3.news HYp.out
      have HNr := Lib.hid hnews
      clear hb3 ho3 hnews
      have HOn : Hid (∀ u ∈ Y.map encStr, u.oneCell' = true) := Lib.hid (fun u hu => by
        obtain ⟨q, _, rfl⟩ := List.mem_map.1 hu; rfl)
      go_wp2_with (at_builtin; refine wpList_append_own _ rfl _ _ 41 rfl W.heap.size 9 i1 _ 1 16 Tryz.underlying41 hi1 hy0 hy1 hy2 rfl (by decide) lv X.length (X.map encStr) rfl HO3.out ⟨g3, 0, none⟩ Y.length c3 (Y.map encStr) rfl (by simp) HNr.out HOn.out (by unfold maxLen; omega) (by omega) HB3.out.size ?_; intro v' w4 hown hgrow _; refine Hid.out ?_)
      refine Lib.hid ?_
      have HO4 : Hid (OwnS W.heap.size w4 v' (X ++ Y)) := Lib.hid (by unfold OwnS; rw [List.length_append, List.map_append]; exact hown)
      have HB4 : Hid (Below W.heap.size W w4) := Lib.hid (grown_below HO3.out rfl HB3.out hgrow)
      clear hown hgrow
      go_wp2_with fail
      go_round
      case rel => exact ⟨k + 1, _, by omega, rfl, by go_num, Lib.hid ⟨HB4.out, by rw [HXY.out]; exact HO4.out⟩⟩
      case measure => simp [intOf]; omega
    · obtain rfl : k = n := by omega
      have hd : decide ((k : Int) < k) = false := decide_eq_false (by omega)
      have HO : Hid (OwnS W.heap.size wr lv (namesL l)) := Lib.hid (by have := HR.out.2; rwa [Hn.out, List.take_length] at this)
      have hnl : (namesL l).length ≤ 1000000 := by have := namesL_len l; rw [← Hn.out] at this; omega
      have HSt := Lib.hid (sort_own W.heap.size lv (namesL l) hnl wr HO.out)
      have Hnl := Lib.hid hnl
      clear hnl
      go_wp2_with fail
      refine HSt.out.mono ?_
      rintro e w5 ⟨rfl, ho5, hg5⟩
      have HO5 := Lib.hid ho5
      have HB5 : Hid (Below W.heap.size W w5) := Lib.hid (grown_below HO.out rfl HR.out.1 hg5)
      clear ho5 hg5
      have HCp := Lib.hid (compact_own W.heap.size lv (srt (namesL l)) (by rw [srt_len]; exact Hnl.out) w5 HO5.out)
      go_wp2_with fail
      refine HCp.out.mono ?_
      rintro e w6 ⟨v6, rfl, ho6, hg6⟩
      have HO6 := Lib.hid ho6
      have HB6 : Hid (Below W.heap.size W w6) := Lib.hid (grown_below HO5.out rfl HB5.out hg6)
      clear ho6 hg6
      go_wp2_with fail
      go_ret
      exact ⟨_, rfl, HO6.out, HB6.out⟩
end Go.Proofs.YtknphmkblcbabaaGreatDoor
