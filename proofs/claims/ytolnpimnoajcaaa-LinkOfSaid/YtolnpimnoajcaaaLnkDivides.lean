/- LinkDivides. -/
import Derived.Test.YtolnpimnoajcaaaLnkTurns
namespace Go.Proofs.Ytolnpimnoajcaaa
open Go.RowKit Go.Maps Go.WideMaps
open Evt Lnk

theorem IMap.look {w : World} {b n : Nat} {f : List UInt8 → Option Nat} (h : IMap w b n f) {s : List UInt8} (hs : s.length ≤ maxLen) :
    (Instr.lookup 35 (.map (some b)) (.string ⟨s.toArray⟩) false).run Try.prog w = .ok (.int .i64 ((f s).getD 0 : Nat)) w := by
  obtain ⟨D, h1, h2⟩ := h
  obtain ⟨v, ps, hrun, hv⟩ := h1.lookup strI_keys Try.underlying35 (zero_intI w) (show intR (.int .i64 0) = some (.lit (.int .i64 0), []) from rfl) (key_str hs)
  rw [(h2 s hs).1] at hv
  rw [hrun, intR_of hv]
/-- What is so while the parts are gone through. -/
structure DivS (W : World) (mb g n : Nat) (l : List Rp) (A : Nat → Nat) (c : Nat) (w : World) : Prop where
  ex : ∃ cnt f, Below W.heap.size W w ∧ IsP w g n A ∧ IMap w mb cnt f ∧ cnt ≤ c ∧ ∀ x t, f x = some t → ∃ i, i < n ∧ x ∈ namesAt l i ∧ t = A i
set_option maxRecDepth 100000 in
set_option maxHeartbeats 16000000 in
theorem divides_any (ao : Option Addr) (l : List Rp) (cap : Nat) (hlc : l.length ≤ cap) (hcp : cap ≤ 9223372036854775807) (W : World) (hi : IsL 2 ElRp W ao l) :
    Calls Try.prog 4 #[.slice ao l.length cap] W fun e w' => e = .returned (.bool true) ∧ Below W.heap.size W w' := by
  have HHd := Lib.hid (head_any W)
  have HFw := Lib.hid (fun w h => few14_any ao l cap (by omega) w h)
  have Hnm := Lib.hid (fun (r : Rp) (oo : Option Addr) (oc : Nat) (h1 : r.opts.length ≤ oc) (h2 : oc ≤ 9223372036854775807) (w : World) (h3 : IsL 14 ElEv w oo r.opts) => repNames_any r oo oc h1 h2 w h3)
  have hmm := @run_makeMap Try.prog
  have HI := Lib.hid hi
  clear hi
  obtain ⟨n, Hn⟩ : ∃ n, Hid (n = l.length) := ⟨_, Lib.hid rfl⟩
  rw [← Hn.out] at HFw hlc ⊢
  go_enter Try.func4, Try.ntmps4
  go_wp2_with fail
  refine HHd.out.mono ?_
  rintro e w1 ⟨rfl, hb⟩
  have HB1 := Lib.hid hb
  have HI1 := Lib.hid (HI.out.below stRp hb)
  clear hb
  go_wp2_with fail
  refine (HFw.out _ HI1.out).mono ?_
  rintro e w2 ⟨b, rfl, hq, hb⟩
  have HB2 := Lib.hid (below_step HB1.out hb)
  have HI2 := Lib.hid (HI1.out.below stRp hb)
  clear hb
  cases b with
  | false =>
    go_wp2_with fail
    go_ret
    exact ⟨rfl, HB2.out⟩
  | true =>
  have hn40 : n ≤ 40 := hq rfl
  clear hq
  have HCm := Lib.hid (comp_any coll_any ao l cap (by rw [← Hn.out]; omega) w2 HI2.out)
  rw [← Hn.out] at HCm
  go_wp2_with fail
  refine HCm.out.mono ?_
  rintro e w3 ⟨sv, r, rfl, hr, hs, hb⟩
  rw [← Hn.out] at hs hr
  have HRr := Lib.hid hr
  have HB3 := Lib.hid (below_step HB2.out hb)
  have HI3 := Lib.hid (HI2.out.below stRp hb)
  have HOf := Lib.hid (of_any n (by omega) r _ _ sv hs)
  clear hs hb hr
  go_wp2_with fail
  refine HOf.out.mono ?_
  rintro e w4 ⟨g, rfl, hg0, hp, hb⟩
  obtain ⟨A, HA⟩ : ∃ x, Hid (x = num r n) := ⟨_, Lib.hid rfl⟩
  rw [← HA.out] at hp
  have HSame : Hid (∀ i j x, i < n → j < n → x ∈ namesAt l i → x ∈ namesAt l j → A i = A j) := Lib.hid (fun i j x hi hj h1 h2 => by
    rw [HA.out, num_eq hi hj, HRr.out i j hi hj]
    exact .step hi hj (.refl _) h1 h2)
  have HPos : Hid (∀ i, i < n → 0 < A i) := Lib.hid (fun i hi => by
    obtain ⟨t, _, _, h⟩ := num_ex (r := r) hi
    rw [HA.out, h]; omega)
  have HP4 := Lib.hid hp
  have HB4 := Lib.hid (below_step HB3.out hb)
  have HI4 := Lib.hid (HI3.out.below stRp hb)
  have hgW : g < w4.heap.size := Whole.lt hp
  clear hp hb hg0
  obtain ⟨mb, Hmb⟩ : ∃ g, Hid (g = w4.heap.size) := ⟨_, Lib.hid rfl⟩
  obtain ⟨X, HX⟩ : ∃ w, Hid (w = w4.alloc (.map #[] 0)) := ⟨_, Lib.hid rfl⟩
  have hgm : g < mb := by rw [Hmb.out]; exact hgW
  have HM0 : Hid (DivS w4 mb g n l A 0 X) := Lib.hid (by
    have hbX : Below w4.heap.size w4 X := by rw [HX.out]; exact (Below.refl _ _).alloc (Nat.le_refl _) _
    exact ⟨0, fun _ => none, hbX, HP4.out.below hbX, by rw [HX.out, Hmb.out]; exact IMap.made _, Nat.le_refl _, fun x t h => by cases h⟩)
  go_wp2_with fail
  rw [← HX.out, ← Hmb.out]
  go_loopw [7] (fun i wr => ∃ q : Nat, q ≤ n ∧ i = .int .i64 q ∧ Hid (DivS w4 mb g n l A (8 * q) wr)) (fun i _ => n - (intOf i).toNat)
  case atStart => exact ⟨0, Nat.zero_le _, by go_num, HM0⟩
  case round =>
    obtain ⟨q, hq, rfl, HQ⟩ := hrel
    by_cases hqn : q < n
    · have hd2 : decide ((q : Int) < n) = true := decide_eq_true (by omega)
      have hb0 : (0 : Int) ≤ q := by omega
      have hb1 : (q : Int) < n := by omega
      have hql : q < l.length := by rw [← Hn.out]; exact hqn
      have HBr : Hid (Below w4.heap.size w4 wr) := Lib.hid (by obtain ⟨_, _, h1, _⟩ := HQ.out.ex; exact h1)
      obtain ⟨bk, off, cs, rfl, hbk, hrg, oo, oc, rfl, hel, hoc1, hoc2⟩ := HI4.out.at hql
      obtain ⟨y, Hy⟩ : ∃ m, Hid (m = l[q]) := ⟨_, Lib.hid rfl⟩
      rw [← Hy.out] at hrg hel hoc1
      obtain ⟨ss, Hss⟩ : ∃ ss, Hid (ss = namesR y) := ⟨_, Lib.hid rfl⟩
      have HNq : Hid (namesAt l q = ss) := Lib.hid (by rw [namesAt_get hql, Hss.out, Hy.out])
      have Hsm : Hid (∀ s ∈ ss, s.length ≤ maxLen) := Lib.hid (fun s hs => by
        rw [Hss.out, mem_namesR] at hs
        obtain ⟨_, e, he, hse⟩ := hs
        exact names_short (sz_of hel e he) s hse)
      have hm8 : ss.length ≤ 8 := by rw [Hss.out]; exact namesR_len y
      have hrg := rangeB hrg hbk HBr.out
      have c0 := hrg 0 _ rfl
      have c1 := hrg 1 _ rfl
      rw [Nat.add_zero] at c0
      have HN2 := Lib.hid (Hnm.out y oo oc hoc1 hoc2 wr (hel.below stEv HBr.out))
      rw [← Hss.out] at HN2
      obtain ⟨on, Hon⟩ : ∃ m, Hid (m = y.opts.length) := ⟨_, Lib.hid rfl⟩
      obtain ⟨yd, Hyd⟩ : ∃ m, Hid (m = y.doubt) := ⟨_, Lib.hid rfl⟩
      rw [← Hon.out] at c0 HN2
      rw [← Hyd.out] at c1 HN2
      obtain ⟨G, HG⟩ : ∃ g, Hid (g = wr.heap.size) := ⟨_, Lib.hid rfl⟩
      have hmG : mb < G := by rw [HG.out]; obtain ⟨cnt, f, h1, h2, h3, _⟩ := HQ.out.ex; exact h3.lt
      rw [← HG.out] at HN2
      clear hrg hel hoc1
      go_wp2_with fail
      refine HN2.out.mono ?_
      rintro e w5 ⟨v5, rfl, ho5, hb5⟩
      have HM5 : Hid (DivS w4 mb g n l A (8 * q + 0) w5) := Lib.hid (by
        obtain ⟨cnt, f, h1, h2, h3, h4⟩ := HQ.out.ex
        rw [HG.out] at hb5
        exact ⟨cnt, f, below_step h1 hb5, h2.below hb5, h3.below hb5 h3.lt, h4⟩)
      obtain ⟨a5, c5, rfl⟩ := ho5.shape
      have HO5 := Lib.hid ho5
      obtain ⟨m, Hm⟩ : ∃ m, Hid (m = ss.length) := ⟨_, Lib.hid rfl⟩
      rw [← Hm.out] at HO5 hm8 ⊢
      clear hb5 ho5 c0 c1
      go_wp2_with fail
      go_loopw [9] (fun i ws => ∃ j : Nat, j ≤ m ∧ i = .int .i64 j ∧ Hid (DivS w4 mb g n l A (8 * q + j) ws ∧ OwnS G ws (.slice a5 m c5) ss)) (fun i _ => m - (intOf i).toNat)
      case atStart => exact ⟨0, Nat.zero_le _, by go_num, Lib.hid ⟨HM5.out, HO5.out⟩⟩
      case round =>
        obtain ⟨j, hj, rfl, HJ⟩ := hrel
        by_cases hjm : j < m
        · have hd3 : decide ((j : Int) < m) = true := decide_eq_true (by omega)
          have hj0 : (0 : Int) ≤ j := by omega
          have hj1 : (j : Int) < m := by omega
          have hjs : j < ss.length := by rw [← Hm.out]; exact hjm
          obtain ⟨g3, c4, hv, hnews⟩ := HJ.out.2.news (fun e => by rw [e] at hjs; simp at hjs)
          injection hv with hv1 hv2 hv3
          subst hv1
          obtain ⟨s, Hs⟩ : ∃ s, Hid (s = ss[j]) := ⟨_, Lib.hid rfl⟩
          have Hs2 : Hid (ss[j]? = some s) := Lib.hid (by rw [Hs.out]; exact List.getElem?_eq_getElem hjs)
          have Hsq : Hid (s ∈ namesAt l q) := Lib.hid (by rw [HNq.out, Hs.out]; exact List.getElem_mem hjs)
          have cs : wr.cell? ⟨g3, j, none⟩ = some (.string ⟨s.toArray⟩) := by
            have := hnews j _ (by rw [List.getElem?_map, Hs2.out]; rfl)
            rwa [ptr_add0] at this
          have Hsz : Hid (s.length ≤ maxLen) := Lib.hid (Hsm.out s (by rw [Hs.out]; exact List.getElem_mem hjs))
          have hg3 : g3 < wr.heap.size := lt_of_cell cs
          obtain ⟨cnt, f, h1, h2, h3, h4, h5⟩ := HJ.out.1.ex
          have HH1 := Lib.hid h1
          have HH2 := Lib.hid h2
          have HH3 := Lib.hid h3
          have HH5 := Lib.hid h5
          obtain ⟨z, Hz⟩ : ∃ z : Nat, Hid (z = (f s).getD 0) := ⟨_, Lib.hid rfl⟩
          obtain ⟨aq, Haq⟩ : ∃ z : Nat, Hid (z = A q) := ⟨_, Lib.hid rfl⟩
          have HZa : Hid (z = 0 ∨ z = aq) := Lib.hid (by
            cases hf : f s with
            | none => rw [hf] at Hz; exact Or.inl Hz.out
            | some t =>
              rw [hf] at Hz
              obtain ⟨i, hi, h6, h7⟩ := h5 s t hf
              right
              have := Hz.out
              rw [Option.getD_some] at this
              rw [this, h7, Haq.out]
              exact HSame.out i q s hi hqn h6 Hsq.out)
          have haq : 0 < aq := by rw [Haq.out]; exact HPos.out q hqn
          clear hnews hv2 hv3 h1 h2 h3 h5
          have gs : ∀ Z : Grown wr, Z.w.cell? ⟨g3, j, none⟩ = some (.string ⟨s.toArray⟩) := fun Z => (cellB Z.below hg3).trans cs
          have gl : ∀ Z : Grown wr, (Instr.lookup 35 (.map (some mb)) (.string ⟨s.toArray⟩) false).run Try.prog Z.w = .ok (.int .i64 z) Z.w := fun Z => by
            rw [Hz.out]; exact (HH3.out.below Z.below HH3.out.lt).look Hsz.out
          have ga : ∀ Z : Grown wr, Z.w.cell? ⟨g, q, none⟩ = some (.int .i64 aq) := fun Z => by rw [Haq.out]; exact (HH2.out.below Z.below).cell hqn
          clear cs
          have Hfin : Hid (∀ Y : World, Below wr.heap.size wr Y → ∃ w6, (Instr.mapUpdate 35 (.map (some mb)) (.string ⟨s.toArray⟩) (.int .i64 aq)).run Try.prog Y = .ok () w6 ∧ DivS w4 mb g n l A (8 * q + (j + 1)) w6 ∧ OwnS G w6 (.slice (some ⟨g3, 0, none⟩) m c5) ss) := Lib.hid (fun Y hY => by
            obtain ⟨w6, hpt, hM, hg'⟩ := (HH3.out.below hY HH3.out.lt).put (s := s) (by unfold maxLen; omega) Hsz.out aq
            have hBY := below_step HH1.out hY
            refine ⟨w6, hpt, ⟨cnt + 1, _, hBY.grown hg' hBY.size (fun y e => by cases e; rw [Hmb.out]; exact Nat.le_refl _), (HH2.out.below hY).kept hg' (fun e => by cases e; omega), hM, by omega, fun x t hx => ?_⟩, (HJ.out.2.below hY).keptL hmG hg'⟩
            (try dsimp only at hx)
            split at hx
            · rename_i e
              subst e
              injection hx with hx
              exact ⟨q, hqn, Hsq.out, by rw [← hx, Haq.out]⟩
            · exact HH5.out x t hx)
          rcases HZa.out with hz0 | hza
          · have e1 : ((z : Int) != 0) = false := by rw [hz0]; rfl
            clear hz0
            go_wp2_with fail
            refine wp_region_grown (by kernel_rfl) (by kernel_rfl) ?_
            repeat (go_big_quiet_step (fail))
            refine wpQuiet_nil ?_
            rintro _ ⟨Z, rfl⟩
            have HZ := Lib.hid Z.below
            have ga2 : ∀ Y : Grown Z.w, Y.w.cell? ⟨g, q, none⟩ = some (.int .i64 aq) := fun Y => ga ⟨Y.w, below_step HZ.out Y.below⟩
            have gs2 : ∀ Y : Grown Z.w, Y.w.cell? ⟨g3, j, none⟩ = some (.string ⟨s.toArray⟩) := fun Y => gs ⟨Y.w, below_step HZ.out Y.below⟩
            clear ga gs gl
            go_wp2_with fail
            refine wp_region_grown_tail 9 (by kernel_rfl) (by kernel_rfl) ?_
            simp only [List.take_succ_cons, List.take_zero, List.drop_succ_cons, List.drop_zero]
            repeat (go_big_quiet_step (fail))
            refine wpQuiet_nil ?_
            intro Y
            obtain ⟨w6, hpt, hD6, hO6⟩ := (Hfin.out Y.w (below_step HZ.out Y.below))
            have HD6 := Lib.hid hD6
            have HO6 := Lib.hid hO6
            clear hD6 hO6 ga2 gs2
            go_wp2_with fail
            go_round
            case rel => exact ⟨j + 1, by omega, by go_num, Lib.hid ⟨HD6.out, HO6.out⟩⟩
            case measure => simp [intOf]; omega
          · subst hza
            have e1 : ((z : Int) != 0) = true := by simp; omega
            have e2 : ((z : Int) != (z : Int)) = false := by simp
            obtain ⟨aq, Haz⟩ : ∃ x, x = z := ⟨_, rfl⟩
            subst Haz
            go_wp2_with fail
            refine wp_region_grown (by kernel_rfl) (by kernel_rfl) ?_
            repeat (go_big_quiet_step (fail))
            refine wpQuiet_nil ?_
            rintro _ ⟨Z, rfl⟩
            have HZ := Lib.hid Z.below
            have ga2 : ∀ Y : Grown Z.w, Y.w.cell? ⟨g, q, none⟩ = some (.int .i64 aq) := fun Y => ga ⟨Y.w, below_step HZ.out Y.below⟩
            have gs2 : ∀ Y : Grown Z.w, Y.w.cell? ⟨g3, j, none⟩ = some (.string ⟨s.toArray⟩) := fun Y => gs ⟨Y.w, below_step HZ.out Y.below⟩
            clear ga gs gl
            go_wp2_with fail
            refine wp_region_grown_tail 9 (by kernel_rfl) (by kernel_rfl) ?_
            simp only [List.take_succ_cons, List.take_zero, List.drop_succ_cons, List.drop_zero]
            repeat (go_big_quiet_step (fail))
            refine wpQuiet_nil ?_
            intro Y
            obtain ⟨w6, hpt, hD6, hO6⟩ := (Hfin.out Y.w (below_step HZ.out Y.below))
            have HD6 := Lib.hid hD6
            have HO6 := Lib.hid hO6
            clear hD6 hO6 ga2 gs2
            go_wp2_with fail
            go_round
            case rel => exact ⟨j + 1, by omega, by go_num, Lib.hid ⟨HD6.out, HO6.out⟩⟩
            case measure => simp [intOf]; omega
        · obtain rfl : j = m := by omega
          have hd3 : decide ((j : Int) < j) = false := decide_eq_false (by omega)
          have HM6 : Hid (DivS w4 mb g n l A (8 * (q + 1)) wr) := Lib.hid (by
            obtain ⟨cnt, f, h1, h2, h3, h4, h5⟩ := HJ.out.1.ex
            exact ⟨cnt, f, h1, h2, h3, by omega, h5⟩)
          go_wp2_with fail
          go_round
          case rel => exact ⟨q + 1, by omega, by go_num, HM6⟩
          case measure => simp [intOf]; omega
    · obtain rfl : q = n := by omega
      have hd2 : decide ((q : Int) < q) = false := decide_eq_false (by omega)
      have HBe : Hid (Below W.heap.size W wr) := Lib.hid (by
        obtain ⟨cnt, f, h1, _⟩ := HQ.out.ex
        exact below_step HB4.out h1)
      go_wp2_with fail
      go_ret
      exact ⟨rfl, HBe.out⟩
end Go.Proofs.Ytolnpimnoajcaaa
