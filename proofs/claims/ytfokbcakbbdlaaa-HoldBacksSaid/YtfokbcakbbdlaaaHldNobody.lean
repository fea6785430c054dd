/- HoldNobody. -/
import Derived.Test.YtfokbcakbbdlaaaHldEarly
import Derived.Test.YtfokbcakbbdlaaaHldNobodyM
namespace Go.Proofs.Ytfokbcakbbdlaaa
open Go.RowKit
open Hld (Rc Hd)

theorem holds_from {w : World} {ao : Option Addr} {H : List Hd} (h : IsHolds w ao H) {k : Nat} (hk : k < H.length) : ∃ bk off, ao = some ⟨bk, off, none⟩ ∧ bk < w.heap.size ∧ IsHold w bk (off + k * 4) H[k] ∧ IsHolds w (some ⟨bk, off + k * 4, none⟩) [H[k]] := by
  obtain ⟨bk, off, h1, h2, h3⟩ := h.at hk
  exact ⟨bk, off, h1, h2, h3, Or.inr ⟨bk, off + k * 4, rfl, h2, fun j hj => by
    obtain rfl : j = 0 := by simp at hj; exact hj
    simpa using h3⟩⟩

set_option maxRecDepth 100000 in
set_option maxHeartbeats 8000000 in
theorem nobody_any (ids : List ByteArray) (recs : List Rc) (z : Int) (io ro : Option Addr) (ic rc : Nat) (hn : recs.length ≤ 9223372036854775807) (hm : ids.length ≤ 9223372036854775807) (W : World) (hi : IsStrs W io ids) (hr : IsRecs W ro recs) :
    Calls Try.prog 8 #[.slice io ids.length ic, .slice ro recs.length rc, .int .i64 z] W fun e w' => e = .returned (.bool true) ∧ Below W.heap.size W w' := by
  obtain ⟨i0, hi0, hz0, hz1, hz2⟩ := info_parts info_rec
  obtain ⟨i1, hi1, hy0, hy1, hy2⟩ := info_parts info_str
  have HHead := Lib.hid (head_any W)
  have HFew := Lib.hid (fun W1 h1 h2 => few_any ids recs io ro ic rc hn hm W1 h1 h2)
  have HI := Lib.hid hi
  have HR := Lib.hid hr
  have HAll := Lib.hid (@all_any ids recs io ro ic rc)
  clear hi hr
  obtain ⟨n, Hn⟩ : ∃ n, Hid (n = recs.length) := ⟨_, Lib.hid rfl⟩
  obtain ⟨m, Hm⟩ : ∃ n, Hid (n = ids.length) := ⟨_, Lib.hid rfl⟩
  rw [← Hn.out] at hn
  rw [← Hm.out] at hm
  rw [← Hn.out, ← Hm.out] at HFew
  rw [← Hn.out, ← Hm.out]
  go_enter Try.func8, Try.ntmps8
  go_wp2_with fail
  refine HHead.out.mono ?_
  rintro e W1 ⟨rfl, hb1⟩
  have HB1 := Lib.hid hb1
  clear hb1
  go_wp2_with fail
  refine (HFew.out W1 (HI.out.below HB1.out) (HR.out.below HB1.out)).mono ?_
  rintro e w ⟨b, rfl, hf, hw⟩
  subst hw
  cases b with
  | false =>
    go_wp2_with fail
    go_ret
    exact ⟨rfl, HB1.out⟩
  | true =>
  obtain ⟨hn30, hm30, hmem, hsz⟩ := hf rfl
  have HMem := Lib.hid hmem
  have HSz := Lib.hid hsz
  clear hmem hsz hf
  by_cases hne : m ≠ n
  · have h1 : ((m : Int) == (n : Int)) = false := by
      have : ((m : Int) == (n : Int)) = decide ((m : Int) = (n : Int)) := rfl
      rw [this, decide_eq_false]; omega
    go_wp2_with fail
    go_ret
    exact ⟨rfl, HB1.out⟩
  obtain rfl : m = n := by omega
  have HNe : Hid (ids.length = recs.length) := Lib.hid (by rw [← Hn.out, ← Hm.out])
  obtain ⟨P, HP⟩ : ∃ P, Hid (P = ids.zip recs) := ⟨_, Lib.hid rfl⟩
  have HPl : Hid (P.length = m) := Lib.hid (by rw [HP.out, List.length_zip, HNe.out, Nat.min_self]; exact Hn.out.symm)
  clear hne
  go_wp2_with fail
  go_loopw [10, 8, 9] (fun i x y wr => ∃ (k : Nat) (rv nv : Value), k ≤ m ∧ i = .int .i64 k ∧ x = rv ∧ y = nv ∧ Hid (Pairs W1 wr nv rv ((P.take k).filter (Hld.keep z)))) (fun i _ _ _ => m - (intOf i).toNat)
  case atStart => exact ⟨0, _, _, Nat.zero_le _, by go_num, rfl, rfl, Lib.hid (Pairs.start _)⟩
  case round =>
    obtain ⟨k, rv, nv, hk, rfl, hrv, hnv, HX⟩ := hrel
    replace hrv := hrv.symm
    replace hnv := hnv.symm
    subst hrv hnv
    by_cases hkn : k < m
    · have hd2 : decide ((k : Int) < (m : Int)) = true := decide_eq_true (by omega)
      have hb0 : (0 : Int) ≤ k := by omega
      have hb1 : (k : Int) < m := by omega
      have hkr : k < recs.length := by rw [← Hn.out]; exact hkn
      have hki : k < ids.length := by rw [← Hm.out]; exact hkn
      have hkP : k < P.length := by rw [HPl.out]; exact hkn
      have HPk : Hid (P[k] = (ids[k], recs[k])) := Lib.hid (by simp only [HP.out, List.getElem_zip])
      obtain ⟨X, HXe⟩ : ∃ X, Hid (X = (P.take k).filter (Hld.keep z)) := ⟨_, Lib.hid rfl⟩
      rw [← HXe.out] at HX
      have HXl : Hid (X.length ≤ 1000) := Lib.hid (by
        have h2 := filter_len_le (Hld.keep z) P k
        have h4 := HPl.out
        rw [HXe.out]
        omega)
      obtain ⟨bk, off, rfl, hbk, hrg, hok, hin⟩ := HR.out.at hkr
      obtain ⟨bi, ofi, rfl, hbi, hci⟩ := HI.out.at hki
      have HRg := Lib.hid (range_below hrg hbk (below_step HB1.out HX.out.low))
      have hciW0 := hci
      have hci := (cell_below (below_step HB1.out HX.out.low) hbi).trans hciW0
      have c0 := HRg.out 0 _ hok.c0
      have c1 := HRg.out 1 _ hok.c1
      rw [Nat.add_zero] at c0
      have HOk := Lib.hid hok
      clear hrg hok hin
      obtain ⟨r, Hr⟩ : ∃ x, Hid (x = recs[k]) := ⟨_, Lib.hid rfl⟩
      obtain ⟨s, Hs⟩ : ∃ x, Hid (x = ids[k]) := ⟨_, Lib.hid rfl⟩
      rw [← Hr.out] at HRg HOk c0 c1
      rw [← Hs.out] at hci hciW0
      obtain ⟨kd, Hkd⟩ : ∃ x, Hid (x = r.kind) := ⟨_, Lib.hid rfl⟩
      rw [← Hkd.out] at c0
      obtain ⟨au, Hau⟩ : ∃ x, Hid (x = r.author) := ⟨_, Lib.hid rfl⟩
      rw [← Hau.out] at c1
      have hciW := hciW0
      obtain ⟨b1, e6⟩ : ∃ b, (kd != 6) = b := ⟨_, rfl⟩
      obtain ⟨b2, ez⟩ : ∃ b, (au != z) = b := ⟨_, rfl⟩
      have HSel : Hid (Hld.keep z P[k] = (b1 || b2)) := Lib.hid (by
        rw [HPk.out]
        show (!decide (recs[k].kind = 6) || !decide (recs[k].author = z)) = _
        rw [← e6, ← ez, Hkd.out, Hau.out, Hr.out]
        rfl)
      have HSn := Lib.hid (filter_snoc (q := Hld.keep z) hkP)
      have HYes : Hid ((b1 || b2) = true → (P.take (k + 1)).filter (Hld.keep z) = X ++ [(s, r)]) := Lib.hid (fun hb => by
        rw [HSn.out, HSel.out, hb, if_pos rfl, HPk.out, ← HXe.out, Hs.out, Hr.out])
      have HNo : Hid ((b1 || b2) = false → (P.take (k + 1)).filter (Hld.keep z) = X) := Lib.hid (fun hb => by
        rw [HSn.out, HSel.out, hb, if_neg (by simp), List.append_nil, ← HXe.out])
      clear HSel HSn
      cases b1 with
      | true =>
          have HNx := Lib.hid (HYes.out rfl)
          go_wp2_with (first
            | (with_reducible show wpList _ _ _ (Oper.mk _ (Op.load 54 _) _ _ _ _ :: _) _ _; refine wpList_load_mid rfl _ _ rfl bk (off + k * 36) rfl r.cells _ HRg.out Try.underlying54 rfl (rec_size r HOk.out) ?_)
            | (with_reducible show wpList _ _ _ (Oper.mk _ (Op.buildSlice 23 _ _) _ _ _ _ :: _) _ _; refine wpList_slice1 (u := .agg r.cells.toArray) rfl _ _ _ rfl rfl (slice_one r.cells HOk.out.len _) ?_; refine Hid.out ?_))
          refine Lib.hid ?_
          obtain ⟨y, Hy⟩ : ∃ y, Hid (y = wr.alloc (.cells r.cells.toArray 54)) := ⟨_, Lib.hid rfl⟩
          have HWy : Hid (Whole y wr.heap.size 54 r.cells.toArray) := Lib.hid (by rw [Hy.out]; exact Whole.new _ _ _)
          have HBy : Hid (Below wr.heap.size wr y) := Lib.hid (by rw [Hy.out]; exact (Below.refl _ _).alloc (Nat.le_refl _) _)
          rw [← Hy.out]
          have hXl : X.length ≤ 1000 := HXl.out
          have hsy : W1.heap.size ≤ y.heap.size := Nat.le_trans HX.out.low.size HBy.out.size
          have HNr : Hid (∀ (i : Nat) (u : Value), r.cells[i]? = some u → y.cell? ((⟨wr.heap.size, 0, none⟩ : Addr).add i) = some u) := Lib.hid (by
            intro i u hu
            have e : (⟨wr.heap.size, 0, none⟩ : Addr).add i = ⟨wr.heap.size, i, none⟩ := by unfold Addr.add; split <;> simp_all
            rw [e, HWy.out.cell]
            simpa using hu)
          go_wp2_with (at_builtin; refine wpList_append_own _ rfl _ _ 23 rfl W1.heap.size 54 i0 _ 36 480 Try.underlying23 hi0 hz0 hz1 hz2 rfl (by decide) rv X.length (recsC (X.map (·.2))) rfl (HX.out.below HBy.out).recs ⟨wr.heap.size, 0, none⟩ 1 1 r.cells rfl HOk.out.len HNr.out HOk.out.one (by unfold maxLen; omega) (by omega) hsy ?_; intro rv' w2 hown hgrow _; refine Hid.out ?_)
          refine Lib.hid ?_
          obtain ⟨e1, e2, e3⟩ := HX.out.rec1 HBy.out hgrow hown
          have HE1 := Lib.hid e1
          have HE2 := Lib.hid e2
          have HE3 := Lib.hid e3
          clear e1 e2 e3 hown hgrow
          replace hci := (cell_below ((below_step HB1.out HE1.out)) hbi).trans hciW
          have hs2 : W1.heap.size ≤ (w2.alloc (.cells #[.string s] 9)).heap.size := by rw [size_alloc]; have := HE1.out.size; omega
          have HNs : Hid (∀ (i : Nat) (u : Value), [Value.string s][i]? = some u → (w2.alloc (.cells #[.string s] 9)).cell? ((⟨w2.heap.size, 0, none⟩ : Addr).add i) = some u) := Lib.hid (by
            intro i u hu
            have e : (⟨w2.heap.size, 0, none⟩ : Addr).add i = ⟨w2.heap.size, i, none⟩ := by unfold Addr.add; split <;> simp_all
            rw [e, cell_alloc, if_pos rfl]
            simpa using hu)
          have HEnd : Hid (∀ w3 nv', (w2.alloc (.cells #[.string s] 9)).grownBy w3 nv.ownBlock → w3.ownsRow W1.heap.size 9 1 nv' (X.length + 1) (strC (X.map (·.1)) ++ [.string s]) → Pairs W1 w3 nv' rv' (X ++ [(s, r)])) := Lib.hid (fun w3 nv' hg ho => Pairs.snoc (x := (s, r)) HE1.out HE2.out HE3.out ((Below.refl _ _).alloc (Nat.le_refl _) _) hg ho)
          go_wp2_with (at_builtin; refine wpList_append_own _ rfl _ _ 22 rfl W1.heap.size 9 i1 (.string ⟨#[]⟩) 1 16 Try.underlying22 hi1 hy0 hy1 hy2 rfl (by decide) nv X.length (strC (X.map (·.1))) rfl (HE2.out.alloc _) ⟨w2.heap.size, 0, none⟩ 1 1 [.string s] rfl rfl HNs.out (by simp [Value.oneCell']) (by unfold maxLen; omega) (by omega) hs2 ?_; intro nv' w3 hown hgrow _; have HFin := Lib.hid (HEnd.out w3 nv' hgrow hown); clear hown hgrow)
          go_round
          case rel => exact ⟨k + 1, _, _, by omega, by go_num, rfl, rfl, Lib.hid (by rw [HNx.out]; exact HFin.out)⟩
          case measure => simp [intOf]; omega
      | false =>
        cases b2 with
        | true =>
          have HNx := Lib.hid (HYes.out rfl)
          go_wp2_with (first
            | (with_reducible show wpList _ _ _ (Oper.mk _ (Op.load 54 _) _ _ _ _ :: _) _ _; refine wpList_load_mid rfl _ _ rfl bk (off + k * 36) rfl r.cells _ HRg.out Try.underlying54 rfl (rec_size r HOk.out) ?_)
            | (with_reducible show wpList _ _ _ (Oper.mk _ (Op.buildSlice 23 _ _) _ _ _ _ :: _) _ _; refine wpList_slice1 (u := .agg r.cells.toArray) rfl _ _ _ rfl rfl (slice_one r.cells HOk.out.len _) ?_; refine Hid.out ?_))
          refine Lib.hid ?_
          obtain ⟨y, Hy⟩ : ∃ y, Hid (y = wr.alloc (.cells r.cells.toArray 54)) := ⟨_, Lib.hid rfl⟩
          have HWy : Hid (Whole y wr.heap.size 54 r.cells.toArray) := Lib.hid (by rw [Hy.out]; exact Whole.new _ _ _)
          have HBy : Hid (Below wr.heap.size wr y) := Lib.hid (by rw [Hy.out]; exact (Below.refl _ _).alloc (Nat.le_refl _) _)
          rw [← Hy.out]
          have hXl : X.length ≤ 1000 := HXl.out
          have hsy : W1.heap.size ≤ y.heap.size := Nat.le_trans HX.out.low.size HBy.out.size
          have HNr : Hid (∀ (i : Nat) (u : Value), r.cells[i]? = some u → y.cell? ((⟨wr.heap.size, 0, none⟩ : Addr).add i) = some u) := Lib.hid (by
            intro i u hu
            have e : (⟨wr.heap.size, 0, none⟩ : Addr).add i = ⟨wr.heap.size, i, none⟩ := by unfold Addr.add; split <;> simp_all
            rw [e, HWy.out.cell]
            simpa using hu)
          go_wp2_with (at_builtin; refine wpList_append_own _ rfl _ _ 23 rfl W1.heap.size 54 i0 _ 36 480 Try.underlying23 hi0 hz0 hz1 hz2 rfl (by decide) rv X.length (recsC (X.map (·.2))) rfl (HX.out.below HBy.out).recs ⟨wr.heap.size, 0, none⟩ 1 1 r.cells rfl HOk.out.len HNr.out HOk.out.one (by unfold maxLen; omega) (by omega) hsy ?_; intro rv' w2 hown hgrow _; refine Hid.out ?_)
          refine Lib.hid ?_
          obtain ⟨e1, e2, e3⟩ := HX.out.rec1 HBy.out hgrow hown
          have HE1 := Lib.hid e1
          have HE2 := Lib.hid e2
          have HE3 := Lib.hid e3
          clear e1 e2 e3 hown hgrow
          replace hci := (cell_below ((below_step HB1.out HE1.out)) hbi).trans hciW
          have hs2 : W1.heap.size ≤ (w2.alloc (.cells #[.string s] 9)).heap.size := by rw [size_alloc]; have := HE1.out.size; omega
          have HNs : Hid (∀ (i : Nat) (u : Value), [Value.string s][i]? = some u → (w2.alloc (.cells #[.string s] 9)).cell? ((⟨w2.heap.size, 0, none⟩ : Addr).add i) = some u) := Lib.hid (by
            intro i u hu
            have e : (⟨w2.heap.size, 0, none⟩ : Addr).add i = ⟨w2.heap.size, i, none⟩ := by unfold Addr.add; split <;> simp_all
            rw [e, cell_alloc, if_pos rfl]
            simpa using hu)
          have HEnd : Hid (∀ w3 nv', (w2.alloc (.cells #[.string s] 9)).grownBy w3 nv.ownBlock → w3.ownsRow W1.heap.size 9 1 nv' (X.length + 1) (strC (X.map (·.1)) ++ [.string s]) → Pairs W1 w3 nv' rv' (X ++ [(s, r)])) := Lib.hid (fun w3 nv' hg ho => Pairs.snoc (x := (s, r)) HE1.out HE2.out HE3.out ((Below.refl _ _).alloc (Nat.le_refl _) _) hg ho)
          go_wp2_with (at_builtin; refine wpList_append_own _ rfl _ _ 22 rfl W1.heap.size 9 i1 (.string ⟨#[]⟩) 1 16 Try.underlying22 hi1 hy0 hy1 hy2 rfl (by decide) nv X.length (strC (X.map (·.1))) rfl (HE2.out.alloc _) ⟨w2.heap.size, 0, none⟩ 1 1 [.string s] rfl rfl HNs.out (by simp [Value.oneCell']) (by unfold maxLen; omega) (by omega) hs2 ?_; intro nv' w3 hown hgrow _; have HFin := Lib.hid (HEnd.out w3 nv' hgrow hown); clear hown hgrow)
          go_round
          case rel => exact ⟨k + 1, _, _, by omega, by go_num, rfl, rfl, Lib.hid (by rw [HNx.out]; exact HFin.out)⟩
          case measure => simp [intOf]; omega
        | false =>
          have HNx := Lib.hid (HNo.out rfl)
          go_wp2_with fail
          go_round
          case rel => exact ⟨k + 1, _, _, by omega, by go_num, rfl, rfl, Lib.hid (by rw [HNx.out]; exact HX.out)⟩
          case measure => simp [intOf]; omega
    · obtain rfl : k = m := by omega
      have hd2 : decide ((k : Int) < (k : Int)) = false := decide_eq_false (by omega)
      obtain ⟨X, HXe⟩ : ∃ X, Hid (X = P.filter (Hld.keep z)) := ⟨_, Lib.hid rfl⟩
      rw [List.take_of_length_le (by rw [HPl.out]; exact Nat.le_refl _), ← HXe.out] at HX
      have HXl : Hid (X.length ≤ 1000) := Lib.hid (by
        have h1 := List.length_filter_le (Hld.keep z) P
        have h4 := HPl.out
        rw [HXe.out]
        omega)
      have HMemX : Hid (∀ x ∈ X, x ∈ P) := Lib.hid (fun x hx => (List.mem_filter.1 (by rw [← HXe.out]; exact hx)).1)
      have HPm : Hid (∀ x ∈ P, x.1 ∈ ids ∧ x.2 ∈ recs) := Lib.hid (fun x hx => List.of_mem_zip (by rw [← HP.out]; exact hx))
      have HSz9 : Hid (∀ s ∈ X.map (·.1), s.size ≤ 9223372036854775807) := Lib.hid (fun s hs => by
        obtain ⟨x, hx, rfl⟩ := List.mem_map.1 hs
        have := HSz.out _ (HPm.out x (HMemX.out x hx)).1
        omega)
      have HMm9 : Hid (∀ r ∈ X.map (·.2), r.members.length ≤ 1000) := Lib.hid (fun r hr => by
        obtain ⟨x, hx, rfl⟩ := List.mem_map.1 hr
        have := HMem.out _ (HPm.out x (HMemX.out x hx)).2
        omega)
      obtain ⟨ao, ac, bo, bc, rfl, rfl⟩ := HX.out.shape
      obtain ⟨H, HHe⟩ : ∃ H, Hid (H = Hld.allF P) := ⟨_, Lib.hid rfl⟩
      have HBw := Lib.hid (below_step HB1.out HX.out.low)
      have HA := Lib.hid (HAll.out (by rw [← Hn.out]; omega) (by rw [← Hm.out]; omega) (fun s hs => by have := HSz.out s hs; omega) (fun r hr => by have := HMem.out r hr; omega) wr (HI.out.below HBw.out) (HR.out.below HBw.out) HNe.out)
      rw [← HP.out, ← HHe.out, ← Hn.out, ← Hm.out] at HA
      obtain ⟨q, Hq⟩ : ∃ q, Hid (q = H.length) := ⟨_, Lib.hid rfl⟩
      obtain ⟨y, Hy⟩ : ∃ q, Hid (q = X.length) := ⟨_, Lib.hid rfl⟩
      rw [← Hq.out] at HA
      rw [← Hy.out]
      have hy1000 : y ≤ 1000 := by rw [Hy.out]; exact HXl.out
      have HHl : Hid (q ≤ 1000) := Lib.hid (by
        have := Hld.allF_len P
        rw [← HHe.out, ← Hq.out, HPl.out] at this
        omega)
      have hq1000 := HHl.out
      have HHm : Hid (∀ h ∈ H, h.members.length ≤ 1000) := Lib.hid (fun h hh => by
        rw [HHe.out] at hh
        obtain ⟨⟨x, hx, _, e⟩, _⟩ := Hld.all_mem hh
        have := HMem.out _ (HPm.out x hx).2
        rw [e]
        omega)
      have HHb : Hid (∀ h ∈ H, h.back.length ≤ 1000) := Lib.hid (fun h hh => by
        rw [HHe.out] at hh
        have := (Hld.all_mem hh).2
        rw [HPl.out] at this
        omega)
      have HAm : Hid (Hld.Among H) := Lib.hid (by rw [HHe.out]; exact Hld.among_all P)
      go_wp2_with fail
      refine HA.out.mono ?_
      rintro e w2 ⟨ho, hc, rfl, hh, hqc, hb⟩
      have HHs := Lib.hid hh
      have HBa := Lib.hid hb
      have HB2 := Lib.hid (below_step HBw.out hb)
      clear hh hb
      have HX2 := Lib.hid (HX.out.below HBa.out)
      obtain ⟨l1, l2⟩ := HX2.out.lists (fun x hx => ⟨(HR.out.1 _ (HPm.out x (HMemX.out x hx)).2).1, (HR.out.1 _ (HPm.out x (HMemX.out x hx)).2).2.below HB1.out⟩)
      have HC := all_any (X.map (·.1)) (X.map (·.2)) ao bo ac bc (by rw [List.length_map]; exact HXl.out) (by rw [List.length_map]; exact HXl.out) HSz9.out HMm9.out w2 l1 l2 (by rw [List.length_map, List.length_map])
      rw [zip_maps, List.length_map, List.length_map, HXe.out, Hld.all_keep, ← HXe.out, ← HHe.out, List.length_map, ← Hq.out, ← Hy.out] at HC
      have HC := Lib.hid HC
      clear l1 l2
      go_wp2_with fail
      refine HC.out.mono ?_
      rintro e w3 ⟨go, gc, rfl, hh, hqg, hb⟩
      have HGs := Lib.hid hh
      have HB3 := Lib.hid (below_step HB2.out hb)
      have HHs3 := Lib.hid (HHs.out.below hb)
      clear hh hb
      go_wp2_with fail
      go_loopw [13] (fun i wz => ∃ k : Nat, k ≤ q ∧ i = .int .i64 k ∧ Hid (Below w3.heap.size w3 wz)) (fun i _ => q - (intOf i).toNat)
      case atStart => exact ⟨0, Nat.zero_le _, by go_num, Lib.hid (Below.refl _ _)⟩
      case round =>
        obtain ⟨k, hk, rfl, HBz⟩ := hrel
        by_cases hkq : k < q
        · have hd : decide ((k : Int) < (q : Int)) = true := decide_eq_true (by omega)
          have hb0 : (0 : Int) ≤ k := by omega
          have hb1 : (k : Int) < q := by omega
          have hkH : k < H.length := by rw [← Hq.out]; exact hkq
          have hkG : k < (H.map (Hld.drop z)).length := by rw [List.length_map]; exact hkH
          obtain ⟨bh, oh, rfl, hbh, ⟨a0, a1, mo, mc, bo2, bc2, a2, a3, a4, a5⟩, hsA⟩ := holds_from (HHs3.out.below HBz.out) hkH
          obtain ⟨bg, og, rfl, hbg, hG, hsB⟩ := holds_from (HGs.out.below HBz.out) hkG
          rw [List.getElem_map] at hG hsB
          have hmemH : H[k] ∈ H := List.getElem_mem hkH
          obtain ⟨h, Hh⟩ : ∃ h, Hid (h = H[k]) := ⟨_, Lib.hid rfl⟩
          rw [← Hh.out] at a0 a1 a2 a3 a4 a5 hsA hG hsB hmemH
          have hml9 := HHm.out _ hmemH
          have hbl9 := HHb.out _ hmemH
          have hAm := HAm.out _ hmemH
          have HIn := Lib.hid (in_any mo h.members mc z (by omega) wr a4)
          obtain ⟨c, Hc⟩ : ∃ c, Hid (c = h.members.contains z) := ⟨_, Lib.hid rfl⟩
          obtain ⟨ml, Hml⟩ : ∃ m, Hid (m = h.members.length) := ⟨_, Lib.hid rfl⟩
          rw [← Hml.out, ← Hc.out] at HIn
          rw [← Hml.out] at a2
          go_wp2_with fail
          refine HIn.out.mono ?_
          rintro e wy ⟨rfl, hw⟩
          subst hw
          clear a0 a1 a2 a3 a4 a5
          cases c with
          | true =>
            obtain ⟨a0, a1, mo3, mc3, bo3, bc3, a2, a3, a4, a5⟩ := hG
            have HOut : Hid (∀ x : Grown wr, Calls Try.prog 13 #[hdV (Hld.drop z h) mo3 mc3 bo3 bc3] x.w fun e w' => e = .returned (.bool true) ∧ Below x.w.heap.size x.w w') := Lib.hid (fun x => by
              have := out_any (Hld.drop z h) mo3 mc3 bo3 bc3 (Nat.le_trans (List.length_filter_le ..) (by omega)) (by show h.members.length ≤ _; omega) x.w (a4.below x.below) (a5.below x.below)
              rw [Hld.drop_out Hc.out.symm] at this
              exact this)
            unfold hdV at HOut
            obtain ⟨id, Hid'⟩ : ∃ m, Hid (m = (Hld.drop z h).id) := ⟨_, Lib.hid rfl⟩
            obtain ⟨ve, Hve⟩ : ∃ m, Hid (m = (Hld.drop z h).vehicle) := ⟨_, Lib.hid rfl⟩
            obtain ⟨l3, Hl3⟩ : ∃ m, Hid (m = (Hld.drop z h).members.length) := ⟨_, Lib.hid rfl⟩
            obtain ⟨l4, Hl4⟩ : ∃ m, Hid (m = (Hld.drop z h).back.length) := ⟨_, Lib.hid rfl⟩
            rw [← Hid'.out, ← Hve.out, ← Hl3.out, ← Hl4.out] at HOut
            rw [← Hid'.out] at a0
            rw [← Hve.out] at a1
            rw [← Hl3.out] at a2
            rw [← Hl4.out] at a3
            have gx0 : ∀ X : Grown wr, X.w.cell? ⟨bg, og + k * 4, none⟩ = some (.string id) := fun X => by rw [X.cell hbg]; exact a0
            have gx1 : ∀ X : Grown wr, X.w.cell? ⟨bg, og + k * 4 + 1, none⟩ = some (.string ve) := fun X => by rw [X.cell hbg]; exact a1
            have gx2 : ∀ X : Grown wr, X.w.cell? ⟨bg, og + k * 4 + 2, none⟩ = some (.slice mo3 l3 mc3) := fun X => by rw [X.cell hbg]; exact a2
            have gx3 : ∀ X : Grown wr, X.w.cell? ⟨bg, og + k * 4 + 3, none⟩ = some (.slice bo3 l4 bc3) := fun X => by rw [X.cell hbg]; exact a3
            clear a0 a1 a2 a3 a4 a5 hsA hsB hAm
            go_wp2_with fail
            refine wp_region_grown (by kernel_rfl) (by kernel_rfl) ?_
            repeat (go_big_quiet_step (exact grown_of (HOut.out _)))
            refine wpQuiet_nil ?_
            rintro _ ⟨Y, rfl⟩
            go_wp2_with fail
            go_round
            case rel => exact ⟨k + 1, by omega, by go_num, Lib.hid (below_step HBz.out Y.below)⟩
            case measure => simp [intOf]; omega
          | false =>
            have hdr : Hld.drop z h = h := Hld.drop_same hAm Hc.out.symm
            rw [hdr] at hsB
            have HSm : Hid (∀ (x : Grown wr) (c1 c2 : Nat), Calls Try.prog 15 #[.slice (some ⟨bh, oh + k * 4, none⟩) 1 c1, .slice (some ⟨bg, og + k * 4, none⟩) 1 c2] x.w fun e w' => e = .returned (.bool true) ∧ Below x.w.heap.size x.w w') := Lib.hid (fun x c1 c2 => same_true _ _ c1 c2 [h] (by simp) (by intro u hu; rw [List.mem_singleton.1 hu]; omega) x.w (hsA.below x.below) (hsB.below x.below))
            clear hsA hsB hAm hG hdr
            go_wp2_with fail
            refine wp_region_grown (by kernel_rfl) (by kernel_rfl) ?_
            repeat (go_big_quiet_step (exact grown_of (HSm.out _ _ _)))
            refine wpQuiet_nil ?_
            rintro _ ⟨Y, rfl⟩
            go_wp2_with fail
            go_round
            case rel => exact ⟨k + 1, by omega, by go_num, Lib.hid (below_step HBz.out Y.below)⟩
            case measure => simp [intOf]; omega
        · obtain rfl : k = q := by omega
          have hd : decide ((k : Int) < (k : Int)) = false := decide_eq_false (by omega)
          go_wp2_with fail
          go_ret
          exact ⟨rfl, below_step HB3.out HBz.out⟩
theorem nobody_row (ids : List ByteArray) (io : Option Addr) (ic : Nat) (hm : ids.length ≤ 9223372036854775807) (_ : (io = none ∧ ic = 0) ∨ ∃ ad, io = some ad) (recs : List Rc) (ro : Option Addr) (rc : Nat) (hn : recs.length ≤ 9223372036854775807) (_ : (ro = none ∧ rc = 0) ∨ ∃ ad, ro = some ad) (z : Int) (W : World) (hi : IsStrs W io ids) (hr : IsRecs W ro recs) :
    Calls Try.prog 8 #[.slice io ids.length ic, .slice ro recs.length rc, .int .i64 z] W fun e w' => e = .returned (.bool true) ∧ Below W.heap.size W w' := nobody_any ids recs z io ro ic rc hn hm W hi hr

end Go.Proofs.Ytfokbcakbbdlaaa
