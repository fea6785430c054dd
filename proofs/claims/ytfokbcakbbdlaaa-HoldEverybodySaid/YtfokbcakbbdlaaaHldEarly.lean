/- HoldEarly. -/
import Derived.Test.YtfokbcakbbdlaaaHldRows
import Derived.Test.YtfokbcakbbdlaaaHldEarlyM
import Derived.Test.YtfokbcakbbdlaaaHldHead
namespace Go.Proofs.Ytfokbcakbbdlaaa
open Go.RowKit
open Hld (Rc Hd)

theorem zip_maps {α β : Type} : ∀ (l : List (α × β)), (l.map (·.1)).zip (l.map (·.2)) = l
  | [] => rfl
  | x :: l => by rw [List.map_cons, List.map_cons, List.zip_cons_cons, zip_maps l]
theorem filter_len_le {α : Type} (q : α → Bool) (l : List α) (k : Nat) : ((l.take k).filter q).length ≤ l.length := Nat.le_trans (List.length_filter_le ..) (by rw [List.length_take]; omega)
theorem done_len (P : List (ByteArray × Rc)) : ∀ p, (Hld.doneF P p).length ≤ p * P.length
  | 0 => by simp [Hld.doneF]
  | p + 1 => by
    rw [Hld.doneF_succ, List.length_append]
    have h1 := done_len P p
    have h2 := List.length_filter_le (Hld.sel p) P
    rw [Nat.add_mul]
    omega
theorem done_mem {P : List (ByteArray × Rc)} {p : Nat} {x : ByteArray × Rc} (h : x ∈ Hld.doneF P p) : x ∈ P := by
  unfold Hld.doneF at h
  obtain ⟨q, _, hx⟩ := List.mem_flatMap.1 h
  exact (List.mem_filter.1 hx).1
theorem filter_snoc {α : Type} {q : α → Bool} {l : List α} {k : Nat} (hk : k < l.length) : (l.take (k + 1)).filter q = (l.take k).filter q ++ if q l[k] then [l[k]] else [] := by
  rw [List.take_succ_eq_append_getElem hk, List.filter_append]
  congr 1
  by_cases h : q l[k] = true
  · rw [if_pos h, List.filter_cons_of_pos h]; rfl
  · rw [if_neg h, List.filter_cons_of_neg h]; rfl

set_option maxRecDepth 100000 in
set_option maxHeartbeats 8000000 in
theorem early_any (ids : List ByteArray) (recs : List Rc) (io ro : Option Addr) (ic rc : Nat) (hn : recs.length ≤ 9223372036854775807) (hm : ids.length ≤ 9223372036854775807) (W : World) (hi : IsStrs W io ids) (hr : IsRecs W ro recs) :
    Calls Try.prog 6 #[.slice io ids.length ic, .slice ro recs.length rc] W fun e w' => e = .returned (.bool true) ∧ Below W.heap.size W w' := by
  obtain ⟨i0, hi0, hz0, hz1, hz2⟩ := info_parts info_rec
  obtain ⟨i1, hi1, hy0, hy1, hy2⟩ := info_parts info_str
  have HHead := Lib.hid (head_any W)
  have HFew := Lib.hid (fun W1 h1 h2 => few_any ids recs io ro ic rc hn hm W1 h1 h2)
  have HI := Lib.hid hi
  have HR := Lib.hid hr
  have HAll := Lib.hid (@all_any ids recs io ro ic rc)
  clear hi hr
  obtain ⟨n, Hn⟩ : ∃ n, Hid (n = recs.length) := ⟨_, Lib.hid rfl⟩
  obtain ⟨m, Hm⟩ : ∃ n, Hid (n = ids.length) := ⟨_, Lib.hid rfl⟩
  rw [← Hn.out] at hn
  rw [← Hm.out] at hm
  rw [← Hn.out, ← Hm.out] at HFew
  rw [← Hn.out, ← Hm.out]
  go_enter Try.func6, Try.ntmps6
  go_wp2_with fail
  refine HHead.out.mono ?_
  rintro e W1 ⟨rfl, hb1⟩
  have HB1 := Lib.hid hb1
  clear hb1
  go_wp2_with fail
  refine (HFew.out W1 (HI.out.below HB1.out) (HR.out.below HB1.out)).mono ?_
  rintro e w ⟨b, rfl, hf, hw⟩
  subst hw
  cases b with
  | false =>
    go_wp2_with fail
    go_ret
    exact ⟨rfl, HB1.out⟩
  | true =>
  obtain ⟨hn30, hm30, hmem, hsz⟩ := hf rfl
  have HMem := Lib.hid hmem
  have HSz := Lib.hid hsz
  clear hmem hsz hf
  by_cases hne : m ≠ n
  · have h1 : ((m : Int) == (n : Int)) = false := by
      have : ((m : Int) == (n : Int)) = decide ((m : Int) = (n : Int)) := rfl
      rw [this, decide_eq_false]; omega
    go_wp2_with fail
    go_ret
    exact ⟨rfl, HB1.out⟩
  obtain rfl : m = n := by omega
  have HNe : Hid (ids.length = recs.length) := Lib.hid (by rw [← Hn.out, ← Hm.out])
  obtain ⟨P, HP⟩ : ∃ P, Hid (P = ids.zip recs) := ⟨_, Lib.hid rfl⟩
  have HPl : Hid (P.length = m) := Lib.hid (by rw [HP.out, List.length_zip, HNe.out, Nat.min_self]; exact Hn.out.symm)
  clear hne
  go_wp2_with fail
  go_loopw [8, 6, 7] (fun i x y wr => ∃ (p : Nat) (rv nv : Value), p ≤ 2 ∧ i = .int .i64 p ∧ x = rv ∧ y = nv ∧ Hid (Pairs W1 wr nv rv (Hld.doneF P p))) (fun i _ _ _ => 2 - (intOf i).toNat)
  case atStart => exact ⟨0, _, _, by omega, by go_num, rfl, rfl, Lib.hid (Pairs.start _)⟩
  case round =>
    obtain ⟨p, rv0, nv0, hp, rfl, hrv, hnv, HX0⟩ := hrel
    replace hrv := hrv.symm
    replace hnv := hnv.symm
    subst hrv hnv
    by_cases hp2 : p < 2
    · have hd : decide ((p : Int) < 2) = true := decide_eq_true (by omega)
      have hpb : ((p : Int) == 0) = decide (p = 0) := by
        have : ((p : Int) == 0) = decide ((p : Int) = 0) := rfl
        rw [this]; congr 1; exact propext (by omega)
      have HPB := Lib.hid hpb
      clear hpb
      go_wp2_with fail
      go_loopw [9, 6, 7] (fun i x y wr => ∃ (k : Nat) (rv nv : Value), k ≤ m ∧ i = .int .i64 k ∧ x = rv ∧ y = nv ∧ Hid (Pairs W1 wr nv rv (Hld.doneF P p ++ (P.take k).filter (Hld.sel p)))) (fun i _ _ _ => m - (intOf i).toNat)
      case atStart => exact ⟨0, _, _, Nat.zero_le _, by go_num, rfl, rfl, Lib.hid (by simpa using HX0.out)⟩
      case round =>
        obtain ⟨k, rv, nv, hk, rfl, hrv, hnv, HX⟩ := hrel
        replace hrv := hrv.symm
        replace hnv := hnv.symm
        subst hrv hnv
        by_cases hkn : k < m
        · have hd2 : decide ((k : Int) < (m : Int)) = true := decide_eq_true (by omega)
          have hb0 : (0 : Int) ≤ k := by omega
          have hb1 : (k : Int) < m := by omega
          have hkr : k < recs.length := by rw [← Hn.out]; exact hkn
          have hki : k < ids.length := by rw [← Hm.out]; exact hkn
          have hkP : k < P.length := by rw [HPl.out]; exact hkn
          have HPk : Hid (P[k] = (ids[k], recs[k])) := Lib.hid (by simp only [HP.out, List.getElem_zip])
          obtain ⟨X, HXe⟩ : ∃ X, Hid (X = Hld.doneF P p ++ (P.take k).filter (Hld.sel p)) := ⟨_, Lib.hid rfl⟩
          rw [← HXe.out] at HX
          have HXl : Hid (X.length ≤ 1000) := Lib.hid (by
            have h1 := done_len P p
            have h2 := filter_len_le (Hld.sel p) P k
            have h3 : p * P.length ≤ 1 * P.length := Nat.mul_le_mul_right _ (by omega)
            have h4 := HPl.out
            rw [HXe.out, List.length_append]
            omega)
          obtain ⟨bk, off, rfl, hbk, hrg, hok, hin⟩ := HR.out.at hkr
          obtain ⟨bi, ofi, rfl, hbi, hci⟩ := HI.out.at hki
          have HRg := Lib.hid (range_below hrg hbk (below_step HB1.out HX.out.low))
          have hciW0 := hci
          have hci := (cell_below (below_step HB1.out HX.out.low) hbi).trans hciW0
          have c0 := HRg.out 0 _ hok.c0
          rw [Nat.add_zero] at c0
          have HOk := Lib.hid hok
          clear hrg hok hin
          obtain ⟨r, Hr⟩ : ∃ x, Hid (x = recs[k]) := ⟨_, Lib.hid rfl⟩
          obtain ⟨s, Hs⟩ : ∃ x, Hid (x = ids[k]) := ⟨_, Lib.hid rfl⟩
          rw [← Hr.out] at HRg HOk c0
          rw [← Hs.out] at hci hciW0
          obtain ⟨kd, Hkd⟩ : ∃ x, Hid (x = r.kind) := ⟨_, Lib.hid rfl⟩
          rw [← Hkd.out] at c0
          have hciW := hciW0
          obtain ⟨b1, e6⟩ : ∃ b, (kd == 6) = b := ⟨_, rfl⟩
          obtain ⟨b2, ep⟩ : ∃ b, ((p : Int) == 0) = b := ⟨_, rfl⟩
          have HSel : Hid (Hld.sel p P[k] = (b1 == b2)) := Lib.hid (by
            rw [HPk.out]
            show (decide (recs[k].kind = 6) == decide (p = 0)) = _
            rw [← HPB.out, ep, ← e6, Hkd.out, Hr.out]
            rfl)
          have HSn := Lib.hid (filter_snoc (q := Hld.sel p) hkP)
          by_cases hb : b1 = b2
          · subst hb
            have HNx : Hid (Hld.doneF P p ++ (P.take (k + 1)).filter (Hld.sel p) = X ++ [(s, r)]) := Lib.hid (by
              rw [HSn.out, HSel.out, beq_self_eq_true, if_pos rfl, HPk.out, ← List.append_assoc, ← HXe.out, Hs.out, Hr.out])
            go_wp2_with (first
              | (with_reducible show wpList _ _ _ (Oper.mk _ (Op.load 54 _) _ _ _ _ :: _) _ _; refine wpList_load_mid rfl _ _ rfl bk (off + k * 36) rfl r.cells _ HRg.out Try.underlying54 rfl (rec_size r HOk.out) ?_)
              | (with_reducible show wpList _ _ _ (Oper.mk _ (Op.buildSlice 23 _ _) _ _ _ _ :: _) _ _; refine wpList_slice1 (u := .agg r.cells.toArray) rfl _ _ _ rfl rfl (slice_one r.cells HOk.out.len _) ?_; refine Hid.out ?_))
            refine Lib.hid ?_
            obtain ⟨y, Hy⟩ : ∃ y, Hid (y = wr.alloc (.cells r.cells.toArray 54)) := ⟨_, Lib.hid rfl⟩
            have HWy : Hid (Whole y wr.heap.size 54 r.cells.toArray) := Lib.hid (by rw [Hy.out]; exact Whole.new _ _ _)
            have HBy : Hid (Below wr.heap.size wr y) := Lib.hid (by rw [Hy.out]; exact (Below.refl _ _).alloc (Nat.le_refl _) _)
            rw [← Hy.out]
            have hXl : X.length ≤ 1000 := HXl.out
            have hsy : W1.heap.size ≤ y.heap.size := Nat.le_trans HX.out.low.size HBy.out.size
            have HNr : Hid (∀ (i : Nat) (u : Value), r.cells[i]? = some u → y.cell? ((⟨wr.heap.size, 0, none⟩ : Addr).add i) = some u) := Lib.hid (by
              intro i u hu
              have e : (⟨wr.heap.size, 0, none⟩ : Addr).add i = ⟨wr.heap.size, i, none⟩ := by unfold Addr.add; split <;> simp_all
              rw [e, HWy.out.cell]
              simpa using hu)
            go_wp2_with (at_builtin; refine wpList_append_own _ rfl _ _ 23 rfl W1.heap.size 54 i0 _ 36 480 Try.underlying23 hi0 hz0 hz1 hz2 rfl (by decide) rv X.length (recsC (X.map (·.2))) rfl (HX.out.below HBy.out).recs ⟨wr.heap.size, 0, none⟩ 1 1 r.cells rfl HOk.out.len HNr.out HOk.out.one (by unfold maxLen; omega) (by omega) hsy ?_; intro rv' w2 hown hgrow _; refine Hid.out ?_)
            refine Lib.hid ?_
            obtain ⟨e1, e2, e3⟩ := HX.out.rec1 HBy.out hgrow hown
            have HE1 := Lib.hid e1
            have HE2 := Lib.hid e2
            have HE3 := Lib.hid e3
            clear e1 e2 e3 hown hgrow
            replace hci := (cell_below ((below_step HB1.out HE1.out)) hbi).trans hciW
            have hs2 : W1.heap.size ≤ (w2.alloc (.cells #[.string s] 9)).heap.size := by rw [size_alloc]; have := HE1.out.size; omega
            have HNs : Hid (∀ (i : Nat) (u : Value), [Value.string s][i]? = some u → (w2.alloc (.cells #[.string s] 9)).cell? ((⟨w2.heap.size, 0, none⟩ : Addr).add i) = some u) := Lib.hid (by
              intro i u hu
              have e : (⟨w2.heap.size, 0, none⟩ : Addr).add i = ⟨w2.heap.size, i, none⟩ := by unfold Addr.add; split <;> simp_all
              rw [e, cell_alloc, if_pos rfl]
              simpa using hu)
            have HEnd : Hid (∀ w3 nv', (w2.alloc (.cells #[.string s] 9)).grownBy w3 nv.ownBlock → w3.ownsRow W1.heap.size 9 1 nv' (X.length + 1) (strC (X.map (·.1)) ++ [.string s]) → Pairs W1 w3 nv' rv' (X ++ [(s, r)])) := Lib.hid (fun w3 nv' hg ho => Pairs.snoc (x := (s, r)) HE1.out HE2.out HE3.out ((Below.refl _ _).alloc (Nat.le_refl _) _) hg ho)
            go_wp2_with (at_builtin; refine wpList_append_own _ rfl _ _ 22 rfl W1.heap.size 9 i1 (.string ⟨#[]⟩) 1 16 Try.underlying22 hi1 hy0 hy1 hy2 rfl (by decide) nv X.length (strC (X.map (·.1))) rfl (HE2.out.alloc _) ⟨w2.heap.size, 0, none⟩ 1 1 [.string s] rfl rfl HNs.out (by simp [Value.oneCell']) (by unfold maxLen; omega) (by omega) hs2 ?_; intro nv' w3 hown hgrow _; have HFin := Lib.hid (HEnd.out w3 nv' hgrow hown); clear hown hgrow)
            go_round
            case rel => exact ⟨k + 1, _, _, by omega, by go_num, rfl, rfl, Lib.hid (by rw [HNx.out]; exact HFin.out)⟩
            case measure => simp [intOf]; omega
          · have hbf : (b1 == b2) = false := by simpa using hb
            have HNx : Hid (Hld.doneF P p ++ (P.take (k + 1)).filter (Hld.sel p) = X) := Lib.hid (by
              rw [HSn.out, HSel.out, hbf, if_neg (by simp), List.append_nil, ← HXe.out])
            go_wp2_with fail
            go_round
            case rel => exact ⟨k + 1, _, _, by omega, by go_num, rfl, rfl, Lib.hid (by rw [HNx.out]; exact HX.out)⟩
            case measure => simp [intOf]; omega
        · obtain rfl : k = m := by omega
          have hd2 : decide ((k : Int) < (k : Int)) = false := decide_eq_false (by omega)
          have HNx : Hid (Hld.doneF P p ++ (P.take k).filter (Hld.sel p) = Hld.doneF P (p + 1)) := Lib.hid (by
            rw [Hld.doneF_succ, List.take_of_length_le (by rw [HPl.out]; exact Nat.le_refl _)])
          rw [HNx.out] at HX
          go_wp2_with fail
          go_round
          case rel => exact ⟨p + 1, _, _, by omega, by go_num, rfl, rfl, HX⟩
          case measure => simp [intOf]; omega
    · obtain rfl : p = 2 := by omega
      clear hp hp2
      obtain ⟨X, HXe⟩ : ∃ X, Hid (X = Hld.doneF P 2) := ⟨_, Lib.hid rfl⟩
      rw [← HXe.out] at HX0
      have HXl : Hid (X.length ≤ 1000) := Lib.hid (by
        have h1 := done_len P 2
        have h4 := HPl.out
        rw [HXe.out]
        omega)
      have HMemX : Hid (∀ x ∈ X, x ∈ P) := Lib.hid (fun x hx => done_mem (by rw [← HXe.out]; exact hx))
      have HPm : Hid (∀ x ∈ P, x.1 ∈ ids ∧ x.2 ∈ recs) := Lib.hid (fun x hx => List.of_mem_zip (by rw [← HP.out]; exact hx))
      have HSz9 : Hid (∀ s ∈ X.map (·.1), s.size ≤ 9223372036854775807) := Lib.hid (fun s hs => by
        obtain ⟨x, hx, rfl⟩ := List.mem_map.1 hs
        have := HSz.out _ (HPm.out x (HMemX.out x hx)).1
        omega)
      have HMm9 : Hid (∀ r ∈ X.map (·.2), r.members.length ≤ 1000) := Lib.hid (fun r hr => by
        obtain ⟨x, hx, rfl⟩ := List.mem_map.1 hr
        have := HMem.out _ (HPm.out x (HMemX.out x hx)).2
        omega)
      obtain ⟨ao, ac, bo, bc, rfl, rfl⟩ := HX0.out.shape
      obtain ⟨l1, l2⟩ := HX0.out.lists (fun x hx => ⟨(HR.out.1 _ (HPm.out x (HMemX.out x hx)).2).1, (HR.out.1 _ (HPm.out x (HMemX.out x hx)).2).2.below HB1.out⟩)
      have HA := all_any (X.map (·.1)) (X.map (·.2)) ao bo ac bc (by rw [List.length_map]; exact HXl.out) (by rw [List.length_map]; exact HXl.out) HSz9.out HMm9.out wr l1 l2 (by rw [List.length_map, List.length_map])
      rw [zip_maps, List.length_map, List.length_map] at HA
      obtain ⟨H, HHe⟩ : ∃ H, Hid (H = Hld.allF X) := ⟨_, Lib.hid rfl⟩
      rw [← HHe.out] at HA
      have HFr : Hid (Hld.Fresh H) := Lib.hid (by rw [HHe.out, HXe.out]; exact Hld.early_fresh P)
      have HLn : Hid ((Hld.allF (ids.zip recs)).length = H.length) := Lib.hid (by rw [HHe.out, HXe.out, ← HP.out]; exact (Hld.early_len P).symm)
      have HHm : Hid (∀ h ∈ H, h.members.length ≤ 1000) := Lib.hid (fun h hh => by
        rw [HHe.out] at hh
        obtain ⟨⟨x, hx, _, e⟩, _⟩ := Hld.all_mem hh
        rw [e]
        exact HMm9.out _ (List.mem_map.2 ⟨x, hx, rfl⟩))
      have HHl : Hid (H.length ≤ 1000) := Lib.hid (by
        have := Hld.allF_len X
        rw [← HHe.out] at this
        exact Nat.le_trans this HXl.out)
      have HA := Lib.hid HA
      clear l1 l2
      obtain ⟨q, Hq⟩ : ∃ q, Hid (q = H.length) := ⟨_, Lib.hid rfl⟩
      obtain ⟨z, Hz⟩ : ∃ q, Hid (q = X.length) := ⟨_, Lib.hid rfl⟩
      rw [← Hq.out, ← Hz.out] at HA
      rw [← Hz.out]
      have hz1000 : z ≤ 1000 := by rw [Hz.out]; exact HXl.out
      have hq1000 : q ≤ 1000 := by rw [Hq.out]; exact HHl.out
      have HBw := Lib.hid (below_step HB1.out HX0.out.low)
      go_wp2_with fail
      refine HA.out.mono ?_
      rintro e w2 ⟨ho, hc, rfl, hh, -, hb⟩
      have HHs := Lib.hid hh
      have HB2 := Lib.hid (below_step HBw.out hb)
      clear hh hb
      go_wp2_with fail
      go_loopw [11] (fun i wz => ∃ k : Nat, k ≤ q ∧ i = .int .i64 k ∧ Hid (Below w2.heap.size w2 wz)) (fun i _ => q - (intOf i).toNat)
      case atStart => exact ⟨0, Nat.zero_le _, by go_num, Lib.hid (Below.refl _ _)⟩
      case round =>
        obtain ⟨k, hk, rfl, HBz⟩ := hrel
        by_cases hkq : k < q
        · have hd : decide ((k : Int) < (q : Int)) = true := decide_eq_true (by omega)
          have hb0 : (0 : Int) ≤ k := by omega
          have hb1 : (k : Int) < q := by omega
          have hkH : k < H.length := by rw [← Hq.out]; exact hkq
          obtain ⟨bh, oh, rfl, hbh, a0, a1, mo, mc, bo2, bc2, a2, a3, a4, a5⟩ := (HHs.out.below HBz.out).at hkH
          obtain ⟨f1, f2⟩ := HFr.out _ (List.getElem_mem hkH)
          have hml9 := HHm.out _ (List.getElem_mem hkH)
          have HOut := Lib.hid (out_any H[k] mo mc bo2 bc2 (by rw [f1]; exact Nat.zero_le _) (by omega) wr a4 a5)
          unfold hdV at HOut
          rw [Hld.out_fresh ⟨f1, f2⟩, f1] at HOut
          rw [f1] at a3
          obtain ⟨id, Hid'⟩ : ∃ m, Hid (m = H[k].id) := ⟨_, Lib.hid rfl⟩
          obtain ⟨ve, Hve⟩ : ∃ m, Hid (m = H[k].vehicle) := ⟨_, Lib.hid rfl⟩
          obtain ⟨ml, Hml⟩ : ∃ m, Hid (m = H[k].members.length) := ⟨_, Lib.hid rfl⟩
          rw [← Hid'.out, ← Hve.out, ← Hml.out] at HOut
          rw [← Hid'.out] at a0
          rw [← Hve.out] at a1
          rw [← Hml.out] at a2
          have hml0 : 0 < ml := by rw [Hml.out]; exact List.length_pos_iff.2 f2
          rw [← Hml.out] at hml9
          have e9 : ((ml : Int) == 0) = false := by
            have : ((ml : Int) == 0) = decide ((ml : Int) = 0) := rfl
            rw [this, decide_eq_false]; omega
          rw [List.length_nil] at HOut a3
          clear a4 a5 f1 f2
          go_wp2_with fail
          refine HOut.out.mono ?_
          rintro e wy ⟨rfl, hb⟩
          have HBy := Lib.hid (below_step HBz.out hb)
          replace a2 := (cell_below hb hbh).trans a2
          clear hb a0 a1 a3
          go_wp2_with fail
          go_round
          case rel => exact ⟨k + 1, by omega, by go_num, HBy⟩
          case measure => simp [intOf]; omega
        · obtain rfl : k = q := by omega
          have hd : decide ((k : Int) < (k : Int)) = false := decide_eq_false (by omega)
          have HBf := Lib.hid (below_step HB2.out HBz.out)
          have HA2 := Lib.hid (HAll.out (by rw [← Hn.out]; omega) (by rw [← Hm.out]; omega) (fun s hs => by have := HSz.out s hs; omega) (fun r hr => by have := HMem.out r hr; omega) wr (HI.out.below HBf.out) (HR.out.below HBf.out) HNe.out)
          rw [HLn.out, ← Hq.out, ← Hn.out, ← Hm.out] at HA2
          go_wp2_with fail
          refine HA2.out.mono ?_
          rintro e w5 ⟨ho5, hc5, rfl, -, -, hb⟩
          have HBe := Lib.hid (below_step HBf.out hb)
          clear hb
          go_wp2_with fail
          go_ret
          exact ⟨rfl, HBe.out⟩

theorem early_row (ids : List ByteArray) (io : Option Addr) (ic : Nat) (hm : ids.length ≤ 9223372036854775807) (_ : (io = none ∧ ic = 0) ∨ ∃ ad, io = some ad) (recs : List Rc) (ro : Option Addr) (rc : Nat) (hn : recs.length ≤ 9223372036854775807) (_ : (ro = none ∧ rc = 0) ∨ ∃ ad, ro = some ad) (W : World) (hi : IsStrs W io ids) (hr : IsRecs W ro recs) :
    Calls Try.prog 6 #[.slice io ids.length ic, .slice ro recs.length rc] W fun e w' => e = .returned (.bool true) ∧ Below W.heap.size W w' := early_any ids recs io ro ic rc hn hm W hi hr

end Go.Proofs.Ytfokbcakbbdlaaa
