/- ReportNames. -/
import Derived.Test.YtknphmkblcbabaaGreatDoorRepHeadW
import Derived.Test.YtknphmkblcbabaaGreatDoorRepFew
import Derived.Test.YtknphmkblcbabaaGreatDoorRepIn
import Derived.Test.YtknphmkblcbabaaGreatDoorRepNamesR
import Derived.Test.YtknphmkblcbabaaGreatDoorPutMath
namespace Go.Proofs.YtknphmkblcbabaaGreatDoor
open Go.RowKit Go.Sort
open Evt

namespace Evt
theorem namesR_strict (r : Rp) : Strict (namesR r) := by
  unfold namesR
  split
  · exact compact_strict (srt_pw _)
  · exact List.Pairwise.nil
theorem strict_at {ss : List (List UInt8)} (h : Strict ss) {k : Nat} (hk : k + 1 < ss.length) : ss[k] < ss[k + 1] := List.pairwise_iff_getElem.1 h _ _ _ _ (by omega)
/-- Some of the first options mentions a text. -/
noncomputable def fnd (l : List Ev) (x : List UInt8) (k : Nat) : Bool := (l.take k).any fun e => decide (x ∈ namesE e)
theorem fnd_next {l : List Ev} {x : List UInt8} {k : Nat} (hk : k < l.length) : fnd l x (k + 1) = (fnd l x k || decide (x ∈ namesE l[k])) := by
  unfold fnd
  rw [← List.take_append_getElem hk, List.any_append]
  simp
theorem fnd_end (r : Rp) (x : List UInt8) : decide (x ∈ namesR r) = (fnd r.opts x r.opts.length && validR r) := by
  rw [Bool.eq_iff_iff]
  unfold fnd
  rw [List.take_length, decide_eq_true_eq, mem_namesR, Bool.and_eq_true, List.any_eq_true]
  simp only [decide_eq_true_eq]
  exact And.comm
end Evt

def lnP (bn nc m p q : Nat) (a c : ByteArray) : Nat → Value → World → Prop
  | 0, v, _ => v = .slice (some ⟨bn, 0, none⟩) m nc
  | 1, v, _ => v = .int .i64 q
  | 2, v, _ => v = .int .i64 p
  | 3, v, _ => v = .pointer (some ⟨bn, p, none⟩)
  | 4, v, _ => v = .string a
  | 5, v, _ => v = .slice (some ⟨bn, 0, none⟩) m nc
  | 6, v, _ => v = .int .i64 q
  | 7, v, _ => v = .pointer (some ⟨bn, q, none⟩)
  | 8, v, _ => v = .string c
  | 9, v, _ => v = .bool (!Op.bytesLess a.toList c.toList)
  | _, _, _ => True
theorem lnP_below {bn nc m p q : Nat} {a c : ByteArray} : ∀ j u w w', lnP bn nc m p q a c j u w → Below w.heap.size w w' → lnP bn nc m p q a c j u w'
  | 0, _, _, _, h, _ => h
  | 1, _, _, _, h, _ => h
  | 2, _, _, _, h, _ => h
  | 3, _, _, _, h, _ => h
  | 4, _, _, _, h, _ => h
  | 5, _, _, _, h, _ => h
  | 6, _, _, _, h, _ => h
  | 7, _, _, _, h, _ => h
  | 8, _, _, _, h, _ => h
  | 9, _, _, _, h, _ => h
  | _ + 10, _, _, _, _, _ => trivial
set_option maxRecDepth 100000 in
set_option maxHeartbeats 16000000 in
theorem lnames_any (x : Rp) (oo : Option Addr) (oc : Nat) (hc1 : x.opts.length ≤ oc) (hc2 : oc ≤ 9223372036854775807) (T : ByteArray) (hT0 : T.size ≤ 140737488351232) (W : World) (hi : IsL 14 ElEv W oo x.opts) (hT : WTab W) (ht : Tab W) :
    Calls Tryz.prog 5 #[.agg #[.slice oo x.opts.length oc, .bool x.doubt], .string T] W fun e w' => e = .returned (.bool true) ∧ Below W.heap.size W w' := by
  obtain ⟨V, HV⟩ : ∃ w, Hid (w = W.alloc (.cells #[.slice oo x.opts.length oc, .bool x.doubt] 31)) := ⟨_, Lib.hid rfl⟩
  obtain ⟨N, HN⟩ : ∃ N, Hid (N = W.heap.size) := ⟨_, Lib.hid rfl⟩
  have HB : Hid (Below W.heap.size W V) := Lib.hid (by rw [HV.out]; exact (Below.refl _ _).alloc (Nat.le_refl _) _)
  have HW : Hid (Whole V N 31 #[.slice oo x.opts.length oc, .bool x.doubt]) := Lib.hid (by rw [HV.out, HN.out]; exact Whole.new _ _ _)
  have HHd := Lib.hid (head13_any V (hT.below HB.out) (ht.below HB.out))
  have HI := Lib.hid (hi.below stEv HB.out)
  have HVl := Lib.hid (fun (w : World) (h : Below V.heap.size V w) => repValid_any x oo oc hc1 hc2 w (HI.out.below stEv h))
  have HNm := Lib.hid (fun (w : World) (h : Below V.heap.size V w) => repNames_any x oo oc hc1 hc2 w (HI.out.below stEv h))
  have HFw := Lib.hid (fun (w : World) (g : Nat) (h : Below V.heap.size V w) (hg : Whole w g 31 #[.slice oo x.opts.length oc, .bool x.doubt]) => fewLaw_any (some ⟨g, 0, none⟩) [x] 1 (by simp) none 0 0 (by omega) w (IsL.whole (t := 31) (css := [[.slice oo x.opts.length oc, .bool x.doubt]]) (by simpa using hg) rfl (by simp) (fun k hk hk' => by
    obtain rfl : k = 0 := by simp at hk; exact hk
    exact ⟨oo, oc, rfl, HI.out.below stEv h, hc1, hc2⟩)))
  obtain ⟨n, Hn⟩ : ∃ n, Hid (n = x.opts.length) := ⟨_, Lib.hid rfl⟩
  obtain ⟨db, Hdb⟩ : ∃ n, Hid (n = x.doubt) := ⟨_, Lib.hid rfl⟩
  obtain ⟨vr, Hvr⟩ : ∃ b, Hid (b = validR x) := ⟨_, Lib.hid rfl⟩
  rw [← Hn.out, ← Hdb.out] at HV HW HVl HNm HFw ⊢
  rw [← Hvr.out] at HVl
  rw [← Hn.out] at hc1
  obtain ⟨yt, et⟩ : ∃ b, decide ((300 : Int) < T.size) = b := ⟨_, rfl⟩
  have hn9 : n ≤ 9223372036854775807 := by omega
  clear hi hT ht hc1
  go_enter Tryz.func5, Tryz.ntmps5
  go_wp2_with fail
  rw [← HV.out, ← HN.out]
  refine HHd.out.mono ?_
  rintro e w1 ⟨rfl, hb⟩
  have HB1 := Lib.hid hb
  have k0 : w1.cell? ⟨N, 0, none⟩ = some (.slice oo n oc) := (whole_belowM HW.out hb).cell 0
  have k1 : w1.cell? ⟨N, 1, none⟩ = some (.bool db) := (whole_belowM HW.out hb).cell 1
  clear hb
  obtain ⟨g, Hg⟩ : ∃ g, Hid (g = w1.heap.size) := ⟨_, Lib.hid rfl⟩
  obtain ⟨w2, Hw2⟩ : ∃ w, Hid (w = w1.alloc (.cells #[.slice oo n oc, .bool db] 31)) := ⟨_, Lib.hid rfl⟩
  have HB2 : Hid (Below V.heap.size V w2) := Lib.hid (by rw [Hw2.out]; exact below_alloc HB1.out _)
  have HWg : Hid (Whole w2 g 31 #[.slice oo n oc, .bool db]) := Lib.hid (by rw [Hw2.out, Hg.out]; exact Whole.new _ _ _)
  have HF2 := Lib.hid (HFw.out w2 g HB2.out HWg.out)
  go_wp2_with fail
  rw [← Hw2.out, ← Hg.out]
  clear k0 k1
  refine HF2.out.mono ?_
  rintro e w3 ⟨b, rfl, -, hb⟩
  have HB3 := Lib.hid (below_step HB2.out hb)
  have HBW3 := Lib.hid (below_step HB.out HB3.out)
  clear hb
  cases b with
  | false =>
    go_wp2_with fail
    go_ret
    exact ⟨rfl, HBW3.out⟩
  | true =>
  cases yt with
  | true =>
    go_wp2_with fail
    go_ret
    exact ⟨rfl, HBW3.out⟩
  | false =>
  have k0 : w3.cell? ⟨N, 0, none⟩ = some (.slice oo n oc) := (whole_belowM HW.out HB3.out).cell 0
  have k1 : w3.cell? ⟨N, 1, none⟩ = some (.bool db) := (whole_belowM HW.out HB3.out).cell 1
  have HN3 := Lib.hid (HNm.out w3 HB3.out)
  go_wp2_with fail
  refine HN3.out.mono ?_
  rintro e w4 ⟨v4, rfl, ho4, hb⟩
  have HB4 := Lib.hid (below_step HB3.out hb)
  have HBW4 := Lib.hid (below_step HB.out HB4.out)
  have HS4 := Lib.hid (IsS.owns ho4)
  obtain ⟨ss, Hss⟩ : ∃ m, Hid (m = namesR x) := ⟨_, Lib.hid rfl⟩
  rw [← Hss.out] at HS4
  have hss8 : ss.length ≤ 8 := by rw [Hss.out]; exact namesR_len x
  have HSt : Hid (Strict ss) := Lib.hid (by rw [Hss.out]; exact namesR_strict x)
  obtain ⟨m, Hm⟩ : ∃ m, Hid (m = ss.length) := ⟨_, Lib.hid rfl⟩
  obtain ⟨no, nc, rfl, hns⟩ := HS4.out
  have HNs := Lib.hid hns
  rw [← Hm.out] at HS4 hss8 ⊢
  clear hns ho4 hb k0 k1
  go_wp2_with fail
  go_loopw [7] (fun i wr => ∃ q : Nat, 1 ≤ q ∧ (q ≤ m ∨ q = 1) ∧ i = .int .i64 q ∧ Hid (Below w4.heap.size w4 wr)) (fun i _ => m - (intOf i).toNat)
  case atStart => exact ⟨1, Nat.le_refl _, Or.inr rfl, by go_num, Lib.hid (Below.refl _ _)⟩
  case round =>
    obtain ⟨q, hq1, hqm, rfl, HR⟩ := hrel
    by_cases hqn : q < m
    · have hd2 : decide ((q : Int) < m) = true := decide_eq_true (by omega)
      have hb0 : (0 : Int) ≤ q := by omega
      have hb1 : (q : Int) < m := by omega
      have hw : IntKind.i64.wrap ((q : Int) - 1) = ((q - 1 : Nat) : Int) := by rw [IntKind.wrap_i64]; omega
      obtain ⟨p, Hp⟩ : ∃ p, Hid (p = q - 1) := ⟨_, Lib.hid rfl⟩
      rw [← Hp.out] at hw
      have hp0 : (0 : Int) ≤ p := by omega
      have hpm : (p : Int) < m := by have := Hp.out; omega
      have hqs : q < ss.length := by rw [← Hm.out]; exact hqn
      have hps : p < ss.length := by have := Hp.out; omega
      obtain ⟨bn, rfl, hbn, cn⟩ := HNs.out q hqs
      obtain ⟨bn', e', hbn', cp⟩ := HNs.out p hps
      injection e' with e'
      injection e' with e'
      subst e'
      have cn := (cellB HR.out hbn).trans cn
      have cp := (cellB HR.out hbn).trans cp
      obtain ⟨a, Ha⟩ : ∃ s : ByteArray, Hid (s = ⟨ss[p].toArray⟩) := ⟨_, Lib.hid rfl⟩
      obtain ⟨c, Hc⟩ : ∃ s : ByteArray, Hid (s = ⟨ss[q].toArray⟩) := ⟨_, Lib.hid rfl⟩
      rw [← Ha.out] at cp
      rw [← Hc.out] at cn
      have hlt : Op.bytesLess a.toList c.toList = true := by
        rw [Ha.out, less_bts]
        refine decide_eq_true ?_
        have h1 : bts c = ss[q] := by rw [Hc.out]; simp [bts]
        rw [h1]
        have h2 := strict_at HSt.out (k := p) (by have := Hp.out; omega)
        have h3 : p + 1 = q := by have := Hp.out; omega
        simpa only [h3] using h2
      have HCp := Lib.hid (fun (w : World) (h : Below wr.heap.size wr w) => (cellB h (Nat.lt_of_lt_of_le hbn HR.out.size)).trans cp)
      have HCq := Lib.hid (fun (w : World) (h : Below wr.heap.size wr w) => (cellB h (Nat.lt_of_lt_of_le hbn HR.out.size)).trans cn)
      clear cp cn
      go_wp2_with fail
      apply wp_region_monoG 89 (lnP bn nc m p q a c) lnP_below (by kernel_rfl) (by kernel_rfl) rfl
      · intro i o g b ho hgd u w hu
        have hi : i < 10 := by have := (List.getElem?_eq_some_iff.1 ho).1; simpa using this
        have hi : i = 0 ∨ i = 1 ∨ i = 2 ∨ i = 3 ∨ i = 4 ∨ i = 5 ∨ i = 6 ∨ i = 7 ∨ i = 8 ∨ i = 9 := by omega
        rcases hi with rfl | rfl | rfl | rfl | rfl | rfl | rfl | rfl | rfl | rfl
        all_goals
          simp only [List.getElem?_cons_succ, List.getElem?_cons_zero, Option.some.injEq] at ho
          subst ho
          cases hgd
          all_goals exact hu
      · intro i o ho w A' hlow hsee haway
        have q6 : A'.eval (.tmp 6) = .slice (some ⟨bn, 0, none⟩) m nc := (haway 6 (by kernel_rfl)).trans rfl
        have q7 : A'.eval (.tmp 7) = .int .i64 q := (haway 7 (by kernel_rfl)).trans rfl
        have hi : i < 10 := by have := (List.getElem?_eq_some_iff.1 ho).1; simpa using this
        have hi : i = 0 ∨ i = 1 ∨ i = 2 ∨ i = 3 ∨ i = 4 ∨ i = 5 ∨ i = 6 ∨ i = 7 ∨ i = 8 ∨ i = 9 := by omega
        rcases hi with rfl | rfl | rfl | rfl | rfl | rfl | rfl | rfl | rfl | rfl
        all_goals
          simp only [List.getElem?_cons_succ, List.getElem?_cons_zero, Option.some.injEq] at ho
          subst ho
        · exact wp_of_runL (rMove _ _ _ _ _ A' w (.tmp 6) _ q6) ⟨_, rfl, Below.refl _ _, rfl⟩
        · exact wp_of_runL (rMove _ _ _ _ _ A' w (.tmp 7) _ q7) ⟨_, rfl, Below.refl _ _, rfl⟩
        · have q32 : A'.eval (.tmp 32) = .int .i64 q := hsee 32 1 (by kernel_rfl) (by kernel_rfl)
          exact wp_of_runL (rSubInt _ _ _ _ _ A' w _ _ (.tmp 32) _ q 1 p q32 rfl hw) ⟨_, rfl, Below.refl _ _, rfl⟩
        · have q31 : A'.eval (.tmp 31) = .slice (some ⟨bn, 0, none⟩) m nc := hsee 31 0 (by kernel_rfl) (by kernel_rfl)
          have q33 : A'.eval (.tmp 33) = .int .i64 p := hsee 33 2 (by kernel_rfl) (by kernel_rfl)
          exact wp_of_runL (rIndex _ _ _ _ _ A' w 41 9 1 (.tmp 31) (.tmp 33) bn 0 m nc p p Tryz.underlying41 (by kernel_rfl) (by omega) (by omega) q31 q33) ⟨_, rfl, Below.refl _ _, by show _ = _; simp⟩
        · have q34 : A'.eval (.tmp 34) = .pointer (some ⟨bn, p, none⟩) := hsee 34 3 (by kernel_rfl) (by kernel_rfl)
          exact wp_of_runL (rLoad1 _ _ _ _ _ A' w 9 (.tmp 34) _ _ _ Tryz.underlying9 rfl (HCp.out w hlow) q34) ⟨_, rfl, Below.refl _ _, rfl⟩
        · exact wp_of_runL (rMove _ _ _ _ _ A' w (.tmp 6) _ q6) ⟨_, rfl, Below.refl _ _, rfl⟩
        · exact wp_of_runL (rMove _ _ _ _ _ A' w (.tmp 7) _ q7) ⟨_, rfl, Below.refl _ _, rfl⟩
        · have q36 : A'.eval (.tmp 36) = .slice (some ⟨bn, 0, none⟩) m nc := hsee 36 5 (by kernel_rfl) (by kernel_rfl)
          have q37 : A'.eval (.tmp 37) = .int .i64 q := hsee 37 6 (by kernel_rfl) (by kernel_rfl)
          exact wp_of_runL (rIndex _ _ _ _ _ A' w 41 9 1 (.tmp 36) (.tmp 37) bn 0 m nc q q Tryz.underlying41 (by kernel_rfl) (by omega) (by omega) q36 q37) ⟨_, rfl, Below.refl _ _, by show _ = _; simp⟩
        · have q38 : A'.eval (.tmp 38) = .pointer (some ⟨bn, q, none⟩) := hsee 38 7 (by kernel_rfl) (by kernel_rfl)
          exact wp_of_runL (rLoad1 _ _ _ _ _ A' w 9 (.tmp 38) _ _ _ Tryz.underlying9 rfl (HCq.out w hlow) q38) ⟨_, rfl, Below.refl _ _, rfl⟩
        · have q35 : A'.eval (.tmp 35) = .string a := hsee 35 4 (by kernel_rfl) (by kernel_rfl)
          have q39 : A'.eval (.tmp 39) = .string c := hsee 39 8 (by kernel_rfl) (by kernel_rfl)
          exact wp_of_runL (rGeqStr _ _ _ _ _ A' w _ _ (.tmp 35) (.tmp 39) _ _ q35 q39) ⟨_, rfl, Below.refl _ _, rfl⟩
      intro e wz hlow hall
      obtain ⟨v0, e0, -⟩ := hall 0 (by decide)
      obtain ⟨v1, e1, -⟩ := hall 1 (by decide)
      obtain ⟨v2, e2, -⟩ := hall 2 (by decide)
      obtain ⟨v3, e3, -⟩ := hall 3 (by decide)
      obtain ⟨v4, e4, -⟩ := hall 4 (by decide)
      obtain ⟨v5, e5, -⟩ := hall 5 (by decide)
      obtain ⟨v6, e6, -⟩ := hall 6 (by decide)
      obtain ⟨v7, e7, -⟩ := hall 7 (by decide)
      obtain ⟨v8, e8, -⟩ := hall 8 (by decide)
      obtain ⟨v9, e9, h9⟩ := hall 9 (by decide)
      have h9' : v9 = .bool (!Op.bytesLess a.toList c.toList) := h9
      subst h9'
      clear h9
      have HLow := Lib.hid hlow
      simp only [List.length_cons, List.length_nil, Nat.reduceAdd, fillTo, e0, e1, e2, e3, e4, e5, e6, e7, e8, e9, dstOf]
      clear e0 e1 e2 e3 e4 e5 e6 e7 e8 e9 hlow hall
      go_simp
      have hlt' : (!Op.bytesLess a.toList c.toList) = false := by rw [hlt]; rfl
      have HRz := Lib.hid (below_step HR.out HLow.out)
      clear hw
      go_wp2_with fail
      go_round
      case rel => exact ⟨q + 1, by omega, by omega, by go_num, HRz⟩
      case measure => simp [intOf]; omega
    · have hd2 : decide ((q : Int) < m) = false := decide_eq_false (by omega)
      clear hqm
      go_wp2_with fail
      go_loopw [8, 9] (fun f i ws => ∃ k : Nat, k ≤ n ∧ i = .int .i64 k ∧ f = .bool (fnd x.opts (bts T) k) ∧ Hid (Below w4.heap.size w4 ws)) (fun _ i _ => n - (intOf i).toNat)
      case atStart => exact ⟨0, Nat.zero_le _, by go_num, rfl, HR⟩
      case round =>
        obtain ⟨k, hk, rfl, rfl, HK⟩ := hrel
        obtain ⟨fd, Hfd⟩ : ∃ b, Hid (b = fnd x.opts (bts T) k) := ⟨_, Lib.hid rfl⟩
        rw [← Hfd.out]
        have HBk := Lib.hid (below_step HB4.out HK.out)
        have HWk := Lib.hid (whole_belowM HW.out HBk.out)
        have k0 : wr.cell? ⟨N, 0, none⟩ = some (.slice oo n oc) := HWk.out.cell 0
        have k1 : wr.cell? ⟨N, 1, none⟩ = some (.bool db) := HWk.out.cell 1
        by_cases hkn : k < n
        · have hd3 : decide ((k : Int) < n) = true := decide_eq_true (by omega)
          have hk0 : (0 : Int) ≤ k := by omega
          have hk1 : (k : Int) < n := by omega
          have hkl : k < x.opts.length := by rw [← Hn.out]; exact hkn
          obtain ⟨bk, off, cs, rfl, hbk, hrg, rfl, hsz⟩ := (HI.out.below stEv HBk.out).at hkl
          obtain ⟨y, Hy⟩ : ∃ m, Hid (m = x.opts[k]) := ⟨_, Lib.hid rfl⟩
          rw [← Hy.out] at hrg hsz
          have HRg := Lib.hid hrg
          have HSp := Lib.hid ev_size
          have HNe := Lib.hid (evNames_any y hsz wr)
          have HFn : Hid (fnd x.opts (bts T) (k + 1) = (fd || decide (bts T ∈ namesE y))) := Lib.hid (by rw [fnd_next hkl, ← Hfd.out, ← Hy.out])
          have HMem : Hid (vr = true → ∀ s ∈ namesE y, s ∈ ss) := Lib.hid (fun hv s hs => by rw [Hss.out]; exact mem_namesR.2 ⟨by rw [← Hvr.out]; exact hv, y, by rw [Hy.out]; exact List.getElem_mem hkl, hs⟩)
          clear hrg hsz hbk
          go_wp2_with (first
            | (with_reducible show wpList _ _ _ (Oper.mk _ (Op.load 51 _) _ _ _ _ :: _) _ _; refine wpList_load_mid rfl _ _ rfl bk (off + k * 14) rfl _ _ HRg.out Tryz.underlying51 rfl (HSp.out.trans rfl) ?_))
          refine HNe.out.mono ?_
          rintro e w6 ⟨v6, rfl, ho6, hb6⟩
          have HB6 := Lib.hid (below_step HK.out hb6)
          have HS6 := Lib.hid (IsS.owns ho6)
          obtain ⟨es, Hes⟩ : ∃ m, Hid (m = namesE y) := ⟨_, Lib.hid rfl⟩
          rw [← Hes.out] at HS6
          have hes2 : es.length ≤ 2 := by rw [Hes.out]; exact namesE_len y
          have HIn := Lib.hid (fun (w : World) (h : Below w6.heap.size w6 w) => in_any es (Nat.le_trans hes2 (by omega)) T w v6 (HS6.out.below h))
          obtain ⟨R, HR1⟩ : ∃ b, Hid (b = decide (bts T ∈ es)) := ⟨_, Lib.hid rfl⟩
          rw [← HR1.out] at HIn
          have HFn2 : Hid (fnd x.opts (bts T) (k + 1) = (fd || R)) := Lib.hid (by rw [HFn.out, HR1.out, Hes.out])
          obtain ⟨mm, Hmm⟩ : ∃ m, Hid (m = es.length) := ⟨_, Lib.hid rfl⟩
          obtain ⟨eo, ec, rfl, hens⟩ := HS6.out
          have HEs := Lib.hid hens
          rw [← Hmm.out] at hes2 HIn HS6 ⊢
          clear hens ho6 hb6 k0 k1
          cases fd with
          | true =>
            have HFx : Hid (fnd x.opts (bts T) (k + 1) = true) := Lib.hid (by rw [HFn2.out]; rfl)
            have Hst : Hid (Below w6.heap.size w6 w6) := Lib.hid (Below.refl _ _)
            obtain ⟨wo, Hwo⟩ : ∃ x, Hid (x = wr) := ⟨_, Lib.hid rfl⟩
            go_wp2_with fail
            go_loopw [11] (fun i ws => ∃ j : Nat, j ≤ mm ∧ i = .int .i64 j ∧ Hid (Below w6.heap.size w6 ws)) (fun i _ => mm - (intOf i).toNat)
            case atStart => exact ⟨0, Nat.zero_le _, by go_num, Hst⟩
            case round =>
              obtain ⟨j, hj, rfl, HJ⟩ := hrel
              have HBj := Lib.hid (below_step HB6.out HJ.out)
              by_cases hjm : j < mm
              · have hd4 : decide ((j : Int) < mm) = true := decide_eq_true (by omega)
                have hj0 : (0 : Int) ≤ j := by omega
                have hj1 : (j : Int) < mm := by omega
                have hjs : j < es.length := by rw [← Hmm.out]; exact hjm
                have HW8 := Lib.hid (whole_belowM HW.out (below_step HB4.out HBj.out))
                have k0 : wr.cell? ⟨N, 0, none⟩ = some (.slice (some ⟨bk, off, none⟩) n oc) := HW8.out.cell 0
                have k1 : wr.cell? ⟨N, 1, none⟩ = some (.bool db) := HW8.out.cell 1
                have HV8 := Lib.hid (HVl.out wr (below_step HB4.out HBj.out))
                go_wp2_with fail
                refine HV8.out.mono ?_
                rintro e w9 ⟨rfl, hb9⟩
                have HB9 := Lib.hid (below_step HJ.out hb9)
                have HB94 := Lib.hid (below_step HBj.out hb9)
                clear hb9 k0 k1
                cases vr with
                | false =>
                  go_wp2_with fail
                  go_round
                  case rel => exact ⟨j + 1, by omega, by go_num, HB9⟩
                  case measure => simp [intOf]; omega
                | true =>
                  obtain ⟨be, rfl, hbe, ce⟩ := HEs.out j hjs
                  have ce := (cellB HB9.out hbe).trans ce
                  obtain ⟨U, HU⟩ : ∃ U : ByteArray, Hid (U = ⟨es[j].toArray⟩) := ⟨_, Lib.hid rfl⟩
                  rw [← HU.out] at ce
                  have HI9 := Lib.hid (in_any ss (by rw [← Hm.out]; omega) U w9 _ (HS4.out.below HB94.out))
                  rw [decide_eq_true (show bts U ∈ ss from by rw [HU.out, bts_mkP]; exact HMem.out rfl _ (by rw [← Hes.out]; exact List.getElem_mem hjs))] at HI9
                  go_wp2_with fail
                  refine HI9.out.mono ?_
                  rintro e wa ⟨rfl, hba⟩
                  have HBa := Lib.hid (below_step HB9.out hba)
                  clear hba ce
                  go_wp2_with fail
                  go_round
                  case rel => exact ⟨j + 1, by omega, by go_num, HBa⟩
                  case measure => simp [intOf]; omega
              · obtain rfl : j = mm := by omega
                have hd4 : decide ((j : Int) < j) = false := decide_eq_false (by omega)
                go_wp2_with fail
                go_round
                case rel => exact ⟨k + 1, by omega, by go_num, by rw [HFx.out], HBj⟩
                case measure => simp [intOf]; omega
          | false =>
            have HFx : Hid (fnd x.opts (bts T) (k + 1) = R) := Lib.hid (by rw [HFn2.out]; rfl)
            have HI6 := Lib.hid (HIn.out w6 (Below.refl _ _))
            go_wp2_with fail
            refine HI6.out.mono ?_
            rintro e w7 ⟨rfl, hb7⟩
            have Hst : Hid (Below w6.heap.size w6 w7) := Lib.hid hb7
            clear hb7
            obtain ⟨wo, Hwo⟩ : ∃ x, Hid (x = wr) := ⟨_, Lib.hid rfl⟩
            go_wp2_with fail
            go_loopw [11] (fun i ws => ∃ j : Nat, j ≤ mm ∧ i = .int .i64 j ∧ Hid (Below w6.heap.size w6 ws)) (fun i _ => mm - (intOf i).toNat)
            case atStart => exact ⟨0, Nat.zero_le _, by go_num, Hst⟩
            case round =>
              obtain ⟨j, hj, rfl, HJ⟩ := hrel
              have HBj := Lib.hid (below_step HB6.out HJ.out)
              by_cases hjm : j < mm
              · have hd4 : decide ((j : Int) < mm) = true := decide_eq_true (by omega)
                have hj0 : (0 : Int) ≤ j := by omega
                have hj1 : (j : Int) < mm := by omega
                have hjs : j < es.length := by rw [← Hmm.out]; exact hjm
                have HW8 := Lib.hid (whole_belowM HW.out (below_step HB4.out HBj.out))
                have k0 : wr.cell? ⟨N, 0, none⟩ = some (.slice (some ⟨bk, off, none⟩) n oc) := HW8.out.cell 0
                have k1 : wr.cell? ⟨N, 1, none⟩ = some (.bool db) := HW8.out.cell 1
                have HV8 := Lib.hid (HVl.out wr (below_step HB4.out HBj.out))
                go_wp2_with fail
                refine HV8.out.mono ?_
                rintro e w9 ⟨rfl, hb9⟩
                have HB9 := Lib.hid (below_step HJ.out hb9)
                have HB94 := Lib.hid (below_step HBj.out hb9)
                clear hb9 k0 k1
                cases vr with
                | false =>
                  go_wp2_with fail
                  go_round
                  case rel => exact ⟨j + 1, by omega, by go_num, HB9⟩
                  case measure => simp [intOf]; omega
                | true =>
                  obtain ⟨be, rfl, hbe, ce⟩ := HEs.out j hjs
                  have ce := (cellB HB9.out hbe).trans ce
                  obtain ⟨U, HU⟩ : ∃ U : ByteArray, Hid (U = ⟨es[j].toArray⟩) := ⟨_, Lib.hid rfl⟩
                  rw [← HU.out] at ce
                  have HI9 := Lib.hid (in_any ss (by rw [← Hm.out]; omega) U w9 _ (HS4.out.below HB94.out))
                  rw [decide_eq_true (show bts U ∈ ss from by rw [HU.out, bts_mkP]; exact HMem.out rfl _ (by rw [← Hes.out]; exact List.getElem_mem hjs))] at HI9
                  go_wp2_with fail
                  refine HI9.out.mono ?_
                  rintro e wa ⟨rfl, hba⟩
                  have HBa := Lib.hid (below_step HB9.out hba)
                  clear hba ce
                  go_wp2_with fail
                  go_round
                  case rel => exact ⟨j + 1, by omega, by go_num, HBa⟩
                  case measure => simp [intOf]; omega
              · obtain rfl : j = mm := by omega
                have hd4 : decide ((j : Int) < j) = false := decide_eq_false (by omega)
                go_wp2_with fail
                go_round
                case rel => exact ⟨k + 1, by omega, by go_num, by rw [HFx.out], HBj⟩
                case measure => simp [intOf]; omega
        · obtain rfl : k = n := by omega
          have hd3 : decide ((k : Int) < k) = false := decide_eq_false (by omega)
          have HE : Hid (decide (bts T ∈ ss) = (fd && vr)) := Lib.hid (by rw [Hss.out, Hfd.out, Hvr.out, Hn.out]; exact fnd_end x (bts T))
          have HIn := Lib.hid (in_any ss (by rw [← Hm.out]; omega) T wr _ (HS4.out.below HK.out))
          rw [HE.out] at HIn
          clear HE
          go_wp2_with fail
          refine HIn.out.mono ?_
          rintro e w6 ⟨rfl, hb6⟩
          have HB6 := Lib.hid (below_step HBk.out hb6)
          have HBW6 := Lib.hid (below_step HB.out HB6.out)
          have k0 : w6.cell? ⟨N, 0, none⟩ = some (.slice oo k oc) := (whole_belowM HWk.out hb6).cell 0
          have k1 : w6.cell? ⟨N, 1, none⟩ = some (.bool db) := (whole_belowM HWk.out hb6).cell 1
          clear hb6
          cases fd with
          | false =>
            go_wp2_with fail
            go_ret
            exact ⟨rfl, HBW6.out⟩
          | true =>
            have HV6 := Lib.hid (HVl.out w6 HB6.out)
            go_wp2_with fail
            refine HV6.out.mono ?_
            rintro e w7 ⟨rfl, hb7⟩
            have HBW7 := Lib.hid (below_step HBW6.out hb7)
            clear hb7
            cases vr <;>
            · go_wp2_with fail
              go_ret
              exact ⟨rfl, HBW7.out⟩
end Go.Proofs.YtknphmkblcbabaaGreatDoor
