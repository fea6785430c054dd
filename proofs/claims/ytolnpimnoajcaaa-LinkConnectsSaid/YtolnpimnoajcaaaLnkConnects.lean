/- LinkConnects. -/
import Derived.Test.YtolnpimnoajcaaaLnkHead
import Derived.Test.YtolnpimnoajcaaaLnkOf
import Derived.Test.YtolnpimnoajcaaaLnkConM
namespace Go.Proofs.Ytolnpimnoajcaaa
open Go.RowKit Go.Maps Go.WideMaps
open Evt Lnk

theorem OwnS.keptI {B : Nat} {w : World} {v : Value} {ss : List (List UInt8)} (h : OwnS B w v ss) {b : Nat} (hb : b < B) (i : Nat) (x : Value) : OwnS B (w.setCell ⟨b, i, none⟩ x) v ss := h.keptL hb (grown_setL (grown_refl w (some b)) i x)
theorem any_take {l : List (List UInt8)} {h : List UInt8 → Bool} {j : Nat} (hj : j < l.length) : (l.take (j + 1)).any h = ((l.take j).any h || h l[j]) := by
  rw [← List.take_append_getElem hj, List.any_append]; simp
theorem mem_takeS {l : List (List UInt8)} {j : Nat} (hj : j < l.length) (x : List UInt8) : decide (x ∈ l.take (j + 1)) = (decide (x ∈ l.take j) || decide (x = l[j])) := by
  rw [← List.take_append_getElem hj]
  simp only [List.mem_append, List.mem_singleton]
  exact Bool.decide_or _ _
theorem updB_twice (p : Nat → Bool) (k : Nat) (x y : Bool) : updB (updB p k x) k y = updB p k y := by
  funext j
  unfold updB
  by_cases e : j = k
  · rw [if_pos e, if_pos e]
  · rw [if_neg e, if_neg e, if_neg e]
theorem updB_at (p : Nat → Bool) (k : Nat) (x : Bool) : updB p k x k = x := by unfold updB; rw [if_pos rfl]
theorem updB_self (p : Nat → Bool) (k : Nat) : updB p k (p k) = p := by
  funext j
  unfold updB
  by_cases e : j = k
  · rw [if_pos e, e]
  · rw [if_neg e]
/-- What is so between two rounds. -/
def Turn (W : World) (rb mb m : Nat) (M : Nat → List (List UInt8)) (t : Nat) (w : World) : Prop :=
  ∃ p h, CSt W rb mb m (320 * t) p h w ∧ (∀ i, i < m → p i = true → ∀ x ∈ M i, h x = true) ∧ t ≤ cntB p m
/-- What is so within one. -/
def Part (W : World) (rb mb m : Nat) (M : Nat → List (List UInt8)) (p0 : Nat → Bool) (h0 : List UInt8 → Bool) (t k : Nat) (w : World) : Prop :=
  ∃ p h, CSt W rb mb m (320 * t + 8 * k) p h w ∧ Rnd m M p0 h0 k p h
set_option maxRecDepth 100000 in
set_option maxHeartbeats 32000000 in
theorem connects_any (ao : Option Addr) (l : List Rp) (cap : Nat) (hlc : l.length ≤ cap) (hcp : cap ≤ 9223372036854775807) (W : World) (hi : IsL 2 ElRp W ao l) :
    Calls Try.prog 5 #[.slice ao l.length cap] W fun e w' => e = .returned (.bool true) ∧ Below W.heap.size W w' := by
  have HHd := Lib.hid (head_any W)
  have HFw := Lib.hid (fun w h => few14_any ao l cap (by omega) w h)
  have Hnm := Lib.hid (fun (r : Rp) (oo : Option Addr) (oc : Nat) (h1 : r.opts.length ≤ oc) (h2 : oc ≤ 9223372036854775807) (w : World) (h3 : IsL 14 ElEv w oo r.opts) => repNames_any r oo oc h1 h2 w h3)
  have hmm := @run_makeMap Try.prog
  have HI := Lib.hid hi
  clear hi
  obtain ⟨n, Hn⟩ : ∃ n, Hid (n = l.length) := ⟨_, Lib.hid rfl⟩
  rw [← Hn.out] at HFw hlc ⊢
  go_enter Try.func5, Try.ntmps5
  go_wp2_with fail
  refine HHd.out.mono ?_
  rintro e w1 ⟨rfl, hb⟩
  have HB1 := Lib.hid hb
  have HI1 := Lib.hid (HI.out.below stRp hb)
  clear hb
  go_wp2_with fail
  refine (HFw.out _ HI1.out).mono ?_
  rintro e w2 ⟨b, rfl, hq, hb⟩
  have HB2 := Lib.hid (below_step HB1.out hb)
  have HI2 := Lib.hid (HI1.out.below stRp hb)
  clear hb
  cases b with
  | false =>
    go_wp2_with fail
    go_ret
    exact ⟨rfl, HB2.out⟩
  | true =>
  have hn40 : n ≤ 40 := hq rfl
  clear hq
  have HCm := Lib.hid (comp_any coll_any ao l cap (by rw [← Hn.out]; omega) w2 HI2.out)
  rw [← Hn.out] at HCm
  go_wp2_with fail
  refine HCm.out.mono ?_
  rintro e w3 ⟨sv, r, rfl, hr, hs, hb⟩
  rw [← Hn.out] at hs hr
  have HRr := Lib.hid hr
  have HB3 := Lib.hid (below_step HB2.out hb)
  have HI3 := Lib.hid (HI2.out.below stRp hb)
  have HNN := Lib.hid (IsNN.sets hs)
  have HOf := Lib.hid (of_any n (by omega) r _ _ sv hs)
  clear hs hb hr
  go_wp2_with fail
  refine HOf.out.mono ?_
  rintro e w5 ⟨g, rfl, -, -, hb⟩
  have HB5 := Lib.hid (below_step HB3.out hb)
  have HI5 := Lib.hid (HI3.out.below stRp hb)
  have HN5 := Lib.hid (HNN.out.below hb)
  clear hb
  obtain ⟨gs, Hgs⟩ : ∃ g, Hid (g = groups r n) := ⟨_, Lib.hid rfl⟩
  rw [← Hgs.out] at HN5
  obtain ⟨so, sc, rfl, hN⟩ := HN5.out
  have HN := Lib.hid hN
  clear hN
  obtain ⟨N, HNn⟩ : ∃ g, Hid (g = gs.length) := ⟨_, Lib.hid rfl⟩
  rw [← HNn.out]
  have hNn : N ≤ n := by rw [HNn.out, Hgs.out, groups_len]; exact reps_len r _
  go_wp2_with fail
  go_loopw [7] (fun i wr => ∃ d : Nat, d ≤ N ∧ i = .int .i64 d ∧ Hid (Below w5.heap.size w5 wr)) (fun i _ => N - (intOf i).toNat)
  case atStart => exact ⟨0, Nat.zero_le _, by go_num, Lib.hid (Below.refl _ _)⟩
  case round =>
    obtain ⟨d, hd, rfl, HD⟩ := hrel
    by_cases hdN : d < N
    · have hd1 : decide ((d : Int) < N) = true := decide_eq_true (by omega)
      have hdz : (0 : Int) ≤ d := by omega
      have hdl : (d : Int) < N := by omega
      have hdg : d < gs.length := by rw [← HNn.out]; exact hdN
      obtain ⟨bs, u, rfl, hbs, cS, hu⟩ := HN.out d hdg
      obtain ⟨uo, uc, rfl, hU⟩ := hu
      obtain ⟨m, Hm⟩ : ∃ x, Hid (x = gs[d].length) := ⟨_, Lib.hid rfl⟩
      rw [← Hm.out] at cS
      have HU := Lib.hid hU
      have HCS := Lib.hid (fun w (hw : Below w5.heap.size w5 w) => (cellB hw hbs).trans cS)
      clear hU cS
      have hm40 : m ≤ 40 := by
        have h2 : gs[d] ∈ groups r n := by rw [← Hgs.out]; exact List.getElem_mem hdg
        have := group_len h2
        rw [Hm.out]; omega
      obtain ⟨M, HM⟩ : ∃ x : Nat → List (List UInt8), Hid (x = fun k => namesAt l (gs[d].getD k 0)) := ⟨_, Lib.hid rfl⟩
      have HLk : Hid (Linked m M) := Lib.hid (by
        have h2 : d < (groups r n).length := by rw [← Hgs.out]; exact hdg
        have := Lnk.linked (N := namesAt l) (fun a b ha hb => by rw [HRr.out a b ha hb, Hn.out]) h2
        rw [HM.out, Hm.out]
        simp only [Hgs.out]
        exact this)
      have HGl : Hid (∀ k (hk : k < gs[d].length), gs[d][k] < l.length ∧ M k = namesAt l gs[d][k]) := Lib.hid (fun k hk => by
        have h2 : gs[d] ∈ groups r n := by rw [← Hgs.out]; exact List.getElem_mem hdg
        refine ⟨by rw [← Hn.out]; exact group_lt h2 _ (List.getElem_mem hk), ?_⟩
        rw [HM.out]
        dsimp only
        rw [List.getD_eq_getElem?_getD, List.getElem?_eq_getElem hk]; rfl)
      obtain ⟨wo, rfl⟩ : ∃ x, x = wr := ⟨_, rfl⟩
      obtain ⟨mb, Hmb⟩ : ∃ g, Hid (g = wo.heap.size) := ⟨_, Lib.hid rfl⟩
      obtain ⟨X, HX⟩ : ∃ w, Hid (w = wo.alloc (.map #[] 0)) := ⟨_, Lib.hid rfl⟩
      obtain ⟨rb, Hrb⟩ : ∃ g, Hid (g = X.heap.size) := ⟨_, Lib.hid rfl⟩
      obtain ⟨Y, HY⟩ : ∃ w, Hid (w = X.alloc (.cells (bC m fun _ => false).toArray 4)) := ⟨_, Lib.hid rfl⟩
      have HC0 : Hid (CSt w5 rb mb m 0 (fun _ => false) (fun _ => false) Y) := Lib.hid (by rw [HY.out]; exact CSt.made HD.out Hmb.out HX.out Hrb.out)
      have hmW : w5.heap.size ≤ mb := by rw [Hmb.out]; exact HD.out.size
      have hrm : rb = mb + 1 := by rw [Hrb.out, HX.out, size_alloc, Hmb.out]
      have hrW : w5.heap.size ≤ rb := by omega
      have hmr : mb ≠ rb := by omega
      have HBX : Hid (Below w5.heap.size w5 X) := Lib.hid (by rw [HX.out]; exact below_alloc HD.out _)
      have cX := HCS.out X HBX.out
      have hmk := run_make_row' (P := Try.prog) 42 4 (.bool false) 1 Try.underlying42 info_boolL rfl .i64 .i64 m (by omega) (by omega) X
      rw [made_bC, ← HY.out, ← Hrb.out] at hmk
      clear hrm
      go_upto_region 12 with fail
      rw [← HX.out, ← Hmb.out]
      go_wp2_with fail
      clear hmk cX
      have HT0 : Hid (Turn w5 rb mb m M 0 Y) := Lib.hid ⟨_, _, HC0.out, (fun i _ h => by cases h), Nat.zero_le _⟩
      go_loopw [10] (fun i ws => ∃ t : Nat, t ≤ m ∧ i = .int .i64 t ∧ Hid (Turn w5 rb mb m M t ws)) (fun i _ => m - (intOf i).toNat)
      case atStart => exact ⟨0, Nat.zero_le _, by go_num, HT0⟩
      case round =>
        obtain ⟨t, ht, rfl, HT⟩ := hrel
        have HBt : Hid (Below w5.heap.size w5 wr) := Lib.hid (by obtain ⟨_, _, h1, _⟩ := HT.out; exact h1.low)
        have cS := HCS.out wr HBt.out
        by_cases htm : t < m
        · have hd2 : decide ((t : Int) < m) = true := decide_eq_true (by omega)
          obtain ⟨p0, h0, hC0, hcl0, hcnt⟩ := HT.out
          have Hcl0 := Lib.hid hcl0
          have Hcnt := Lib.hid hcnt
          have HP0 : Hid (Part w5 rb mb m M p0 h0 t 0 wr) := Lib.hid ⟨p0, h0, hC0, .start hcl0⟩
          clear hC0 hcl0 hcnt
          go_wp2_with fail
          clear cS
          obtain ⟨wt, rfl⟩ : ∃ x, x = wr := ⟨_, rfl⟩
          go_loopw [11] (fun i ws => ∃ k : Nat, k ≤ m ∧ i = .int .i64 k ∧ Hid (Part w5 rb mb m M p0 h0 t k ws)) (fun i _ => m - (intOf i).toNat)
          case atStart => exact ⟨0, Nat.zero_le _, by go_num, HP0⟩
          case round =>
            obtain ⟨k, hk, rfl, HK⟩ := hrel
            obtain ⟨p, h, hC, hRn⟩ := HK.out
            have HC := Lib.hid hC
            have HRn := Lib.hid hRn
            have cS := HCS.out wr hC.low
            clear hC hRn HK
            by_cases hkm : k < m
            · have hd3 : decide ((k : Int) < m) = true := decide_eq_true (by omega)
              have hk0 : (0 : Int) ≤ k := by omega
              have hk1 : (k : Int) < m := by omega
              have hkg : k < gs[d].length := by rw [← Hm.out]; exact hkm
              obtain ⟨bu, rfl, hbu, cu⟩ := HU.out k hkg
              have cu := (cellB HC.out.low hbu).trans cu
              obtain ⟨hzl, hzM⟩ := HGl.out k hkg
              obtain ⟨z, Hz⟩ : ∃ z, Hid (z = gs[d][k]) := ⟨_, Lib.hid rfl⟩
              rw [← Hz.out] at cu hzl hzM
              have hz0 : (0 : Int) ≤ z := by omega
              have hz1 : (z : Int) < n := by rw [Hn.out]; omega
              have HIk := Lib.hid (HI5.out.below stRp HC.out.low)
              obtain ⟨bk, off, cs, rfl, hbk, hrg, oo, oc, rfl, hel, hc1, hc2⟩ := HIk.out.at hzl
              obtain ⟨y, Hy⟩ : ∃ m, Hid (m = l[z]) := ⟨_, Lib.hid rfl⟩
              rw [← Hy.out] at hrg hel hc1
              have d0 := hrg 0 _ rfl
              have d1 := hrg 1 _ rfl
              rw [Nat.add_zero] at d0
              obtain ⟨ss, Hss⟩ : ∃ m, Hid (m = namesR y) := ⟨_, Lib.hid rfl⟩
              have HMk : Hid (M k = ss) := Lib.hid (by rw [hzM, namesAt_get hzl, Hss.out, Hy.out])
              have Hsm : Hid (∀ s ∈ ss, s.length ≤ maxLen) := Lib.hid (fun s hs => by
                rw [Hss.out, mem_namesR] at hs
                obtain ⟨_, e, he, hse⟩ := hs
                exact names_short (sz_of hel e he) s hse)
              have hq8 : ss.length ≤ 8 := by rw [Hss.out]; exact namesR_len y
              have HN3 := Lib.hid (Hnm.out y oo oc hc1 hc2 wr hel)
              rw [← Hss.out] at HN3
              obtain ⟨on, Hon⟩ : ∃ m, Hid (m = y.opts.length) := ⟨_, Lib.hid rfl⟩
              obtain ⟨yd, Hyd⟩ : ∃ m, Hid (m = y.doubt) := ⟨_, Lib.hid rfl⟩
              rw [← Hon.out] at d0 HN3
              rw [← Hyd.out] at d1 HN3
              obtain ⟨G, HG⟩ : ∃ g, Hid (g = wr.heap.size) := ⟨_, Lib.hid rfl⟩
              have hmG : mb < G := by rw [HG.out]; obtain ⟨cnt, f, h1, h2, h3, _⟩ := HC.out.ex; exact h3.lt
              have hrG : rb < G := by rw [HG.out]; exact Whole.lt HC.out.isB
              rw [← HG.out] at HN3
              clear hrg hel hc1 hzM
              go_wp2_with fail
              refine HN3.out.mono ?_
              rintro e w9 ⟨v9, rfl, ho9, hb9⟩
              rw [HG.out] at hb9
              obtain ⟨a9, c9, rfl⟩ := ho9.shape
              obtain ⟨q, Hq⟩ : ∃ m, Hid (m = ss.length) := ⟨_, Lib.hid rfl⟩
              rw [← Hq.out] at hq8
              have HJ0 : Hid (CSt w5 rb mb m (320 * t + 8 * k) (updB p k (p k || (ss.take 0).any h)) h w9 ∧ OwnS G w9 (.slice a9 q c9) ss) := Lib.hid ⟨by
                have := HC.out.below hb9
                refine this.congr (fun j hj => ?_)
                rw [List.take_zero, List.any_nil, Bool.or_false, updB_self], by rw [Hq.out]; exact ho9⟩
              rw [← Hq.out]
              clear d0 d1 cu cS ho9 hb9
              obtain ⟨wk, rfl⟩ : ∃ x, x = wr := ⟨_, rfl⟩
              go_wp2_with fail
              go_loopw [13] (fun i ws => ∃ j : Nat, j ≤ q ∧ i = .int .i64 j ∧ Hid (CSt w5 rb mb m (320 * t + 8 * k) (updB p k (p k || (ss.take j).any h)) h ws ∧ OwnS G ws (.slice a9 q c9) ss)) (fun i _ => q - (intOf i).toNat)
              case atStart => exact ⟨0, Nat.zero_le _, by go_num, HJ0⟩
              case round =>
                obtain ⟨j, hj, rfl, HJ⟩ := hrel
                obtain ⟨b, Hb⟩ : ∃ b, Hid (b = (p k || (ss.take j).any h)) := ⟨_, Lib.hid rfl⟩
                rw [← Hb.out] at HJ
                have cb := HJ.out.1.isB.cell hkm
                rw [updB_at] at cb
                have fb := HJ.out.1.isB.frozen k
                by_cases hjq : j < q
                · have hd4 : decide ((j : Int) < q) = true := decide_eq_true (by omega)
                  have hj0 : (0 : Int) ≤ j := by omega
                  have hj1 : (j : Int) < q := by omega
                  have hjs : j < ss.length := by rw [← Hq.out]; exact hjq
                  obtain ⟨g3, c4, hv, hnews⟩ := HJ.out.2.news (fun e => by rw [e] at hjs; simp at hjs)
                  injection hv with hv1 hv2 hv3
                  subst hv1
                  obtain ⟨s, Hs⟩ : ∃ s, Hid (s = ss[j]) := ⟨_, Lib.hid rfl⟩
                  have Hs2 : Hid (ss[j]? = some s) := Lib.hid (by rw [Hs.out]; exact List.getElem?_eq_getElem hjs)
                  have cs : wr.cell? ⟨g3, j, none⟩ = some (.string ⟨s.toArray⟩) := by
                    have := hnews j _ (by rw [List.getElem?_map, Hs2.out]; rfl)
                    rwa [ptr_add0] at this
                  have hsz : s.length ≤ maxLen := Hsm.out s (by rw [Hs.out]; exact List.getElem_mem hjs)
                  have hlk := HJ.out.1.look hsz
                  obtain ⟨hs, Hhs⟩ : ∃ b, Hid (b = h s) := ⟨_, Lib.hid rfl⟩
                  rw [← Hhs.out] at hlk
                  have HNb : Hid ((p k || (ss.take (j + 1)).any h) = (b || hs)) := Lib.hid (by rw [any_take hjs, Hb.out, Hhs.out, Hs.out, Bool.or_assoc])
                  have HSt : Hid (∀ x, x = (b || hs) → CSt w5 rb mb m (320 * t + 8 * k) (updB p k (p k || (ss.take (j + 1)).any h)) h (wr.setCell ⟨rb, k, none⟩ (.bool x)) ∧ OwnS G (wr.setCell ⟨rb, k, none⟩ (.bool x)) (.slice (some ⟨g3, 0, none⟩) q c9) ss) := Lib.hid (fun x hx => by
                    refine ⟨?_, HJ.out.2.keptI hrG k _⟩
                    rw [hx.trans HNb.out.symm]
                    have := HJ.out.1.reach hrW hmr k (p k || (ss.take (j + 1)).any h)
                    rw [updB_twice] at this
                    exact this)
                  clear hnews hv2 hv3 hsz
                  cases b with
                  | true =>
                    go_wp2_with fail
                    go_round
                    case rel => exact ⟨j + 1, by omega, by go_num, Lib.hid (HSt.out true (by simp))⟩
                    case measure => simp [intOf]; omega
                  | false =>
                    go_wp2_with fail
                    go_round
                    case rel => exact ⟨j + 1, by omega, by go_num, Lib.hid (HSt.out hs (by simp))⟩
                    case measure => simp [intOf]; omega
                · obtain rfl : j = q := by omega
                  have hd4 : decide ((j : Int) < j) = false := decide_eq_false (by omega)
                  obtain ⟨q, rfl⟩ : ∃ x, x = j := ⟨_, rfl⟩
                  have HBk : Hid (b = (p k || (M k).any h)) := Lib.hid (by rw [Hb.out, HMk.out, Hq.out, List.take_length])
                  by_cases hkz : k = 0
                  · have hkk : ((k : Int) == 0) = true := by simp; omega
                    have HB : Hid (true = (decide (k = 0) || (p k || (M k).any h))) := Lib.hid (by rw [decide_eq_true hkz]; rfl)
                    clear hkz
                    go_wp2_with fail
                    obtain ⟨wq, rfl⟩ : ∃ x, x = wr := ⟨_, rfl⟩
                    have HS1 : Hid (CSt w5 rb mb m (320 * t + 8 * k + 0) (updB p k true) (fun x => h x || decide (x ∈ ss.take 0)) (wq.setCell ⟨rb, k, none⟩ (.bool true)) ∧ OwnS G (wq.setCell ⟨rb, k, none⟩ (.bool true)) (.slice a9 q c9) ss) := Lib.hid (by
                      refine ⟨?_, HJ.out.2.keptI hrG k _⟩
                      have := HJ.out.1.reach hrW hmr k true
                      rw [updB_twice] at this
                      exact this.congrH (fun x => by simp))
                    go_loopw [14] (fun i ws => ∃ j : Nat, j ≤ q ∧ i = .int .i64 j ∧ Hid (CSt w5 rb mb m (320 * t + 8 * k + j) (updB p k true) (fun x => h x || decide (x ∈ ss.take j)) ws ∧ OwnS G ws (.slice a9 q c9) ss)) (fun i _ => q - (intOf i).toNat)
                    case atStart => exact ⟨0, Nat.zero_le _, by go_num, HS1⟩
                    case round =>
                      obtain ⟨j, hj, rfl, HJ2⟩ := hrel
                      by_cases hjq : j < q
                      · have hd5 : decide ((j : Int) < q) = true := decide_eq_true (by omega)
                        have hj0 : (0 : Int) ≤ j := by omega
                        have hj1 : (j : Int) < q := by omega
                        have hjs : j < ss.length := by rw [← Hq.out]; exact hjq
                        obtain ⟨g3, c4, hv, hnews⟩ := HJ2.out.2.news (fun e => by rw [e] at hjs; simp at hjs)
                        injection hv with hv1 hv2 hv3
                        subst hv1
                        obtain ⟨s, Hs⟩ : ∃ s, Hid (s = ss[j]) := ⟨_, Lib.hid rfl⟩
                        have Hs2 : Hid (ss[j]? = some s) := Lib.hid (by rw [Hs.out]; exact List.getElem?_eq_getElem hjs)
                        have cs : wr.cell? ⟨g3, j, none⟩ = some (.string ⟨s.toArray⟩) := by
                          have := hnews j _ (by rw [List.getElem?_map, Hs2.out]; rfl)
                          rwa [ptr_add0] at this
                        have hsz : s.length ≤ maxLen := Hsm.out s (by rw [Hs.out]; exact List.getElem_mem hjs)
                        obtain ⟨w6, hpt, hC, hg⟩ := HJ2.out.1.put hmW hmr (by unfold maxLen; omega) hsz
                        have HC6 : Hid (CSt w5 rb mb m (320 * t + 8 * k + (j + 1)) (updB p k true) (fun x => h x || decide (x ∈ ss.take (j + 1))) w6) := Lib.hid (hC.congrH (fun x => by
                          rw [mem_takeS hjs x, Hs.out, Bool.or_assoc]))
                        have HO6 : Hid (OwnS G w6 (.slice (some ⟨g3, 0, none⟩) q c9) ss) := Lib.hid (HJ2.out.2.keptL hmG hg)
                        clear hnews hv2 hv3 hsz hC hg
                        go_wp2_with fail
                        go_round
                        case rel => exact ⟨j + 1, by omega, by go_num, Lib.hid ⟨HC6.out, HO6.out⟩⟩
                        case measure => simp [intOf]; omega
                      · obtain rfl : j = q := by omega
                        have hd5 : decide ((j : Int) < j) = false := decide_eq_false (by omega)
                        have HPn : Hid (Part w5 rb mb m M p0 h0 t (k + 1) wr) := Lib.hid (by
                          have h1 := HJ2.out.1
                          rw [Hq.out, List.take_length] at h1
                          refine ⟨_, _, (h1.mono (by have := hq8; rw [Hq.out] at this; omega)), HRn.out.next (b := true) HB.out (fun x => ?_)⟩
                          rw [HMk.out, Bool.true_and])
                        go_wp2_with fail
                        go_round
                        case rel => exact ⟨k + 1, by omega, by go_num, HPn⟩
                        case measure => simp [intOf]; omega
                  · have hkk : ((k : Int) == 0) = false := by simp; omega
                    cases b with
                    | true =>
                      have HB : Hid (true = (decide (k = 0) || (p k || (M k).any h))) := Lib.hid (by rw [← HBk.out]; simp)
                      go_wp2_with fail
                      obtain ⟨wq, rfl⟩ : ∃ x, x = wr := ⟨_, rfl⟩
                      have HS1 : Hid (CSt w5 rb mb m (320 * t + 8 * k + 0) (updB p k true) (fun x => h x || decide (x ∈ ss.take 0)) (wq.setCell ⟨rb, k, none⟩ (.bool true)) ∧ OwnS G (wq.setCell ⟨rb, k, none⟩ (.bool true)) (.slice a9 q c9) ss) := Lib.hid (by
                        refine ⟨?_, HJ.out.2.keptI hrG k _⟩
                        have := HJ.out.1.reach hrW hmr k true
                        rw [updB_twice] at this
                        exact this.congrH (fun x => by simp))
                      go_loopw [14] (fun i ws => ∃ j : Nat, j ≤ q ∧ i = .int .i64 j ∧ Hid (CSt w5 rb mb m (320 * t + 8 * k + j) (updB p k true) (fun x => h x || decide (x ∈ ss.take j)) ws ∧ OwnS G ws (.slice a9 q c9) ss)) (fun i _ => q - (intOf i).toNat)
                      case atStart => exact ⟨0, Nat.zero_le _, by go_num, HS1⟩
                      case round =>
                        obtain ⟨j, hj, rfl, HJ2⟩ := hrel
                        by_cases hjq : j < q
                        · have hd5 : decide ((j : Int) < q) = true := decide_eq_true (by omega)
                          have hj0 : (0 : Int) ≤ j := by omega
                          have hj1 : (j : Int) < q := by omega
                          have hjs : j < ss.length := by rw [← Hq.out]; exact hjq
                          obtain ⟨g3, c4, hv, hnews⟩ := HJ2.out.2.news (fun e => by rw [e] at hjs; simp at hjs)
                          injection hv with hv1 hv2 hv3
                          subst hv1
                          obtain ⟨s, Hs⟩ : ∃ s, Hid (s = ss[j]) := ⟨_, Lib.hid rfl⟩
                          have Hs2 : Hid (ss[j]? = some s) := Lib.hid (by rw [Hs.out]; exact List.getElem?_eq_getElem hjs)
                          have cs : wr.cell? ⟨g3, j, none⟩ = some (.string ⟨s.toArray⟩) := by
                            have := hnews j _ (by rw [List.getElem?_map, Hs2.out]; rfl)
                            rwa [ptr_add0] at this
                          have hsz : s.length ≤ maxLen := Hsm.out s (by rw [Hs.out]; exact List.getElem_mem hjs)
                          obtain ⟨w6, hpt, hC, hg⟩ := HJ2.out.1.put hmW hmr (by unfold maxLen; omega) hsz
                          have HC6 : Hid (CSt w5 rb mb m (320 * t + 8 * k + (j + 1)) (updB p k true) (fun x => h x || decide (x ∈ ss.take (j + 1))) w6) := Lib.hid (hC.congrH (fun x => by
                            rw [mem_takeS hjs x, Hs.out, Bool.or_assoc]))
                          have HO6 : Hid (OwnS G w6 (.slice (some ⟨g3, 0, none⟩) q c9) ss) := Lib.hid (HJ2.out.2.keptL hmG hg)
                          clear hnews hv2 hv3 hsz hC hg
                          go_wp2_with fail
                          go_round
                          case rel => exact ⟨j + 1, by omega, by go_num, Lib.hid ⟨HC6.out, HO6.out⟩⟩
                          case measure => simp [intOf]; omega
                        · obtain rfl : j = q := by omega
                          have hd5 : decide ((j : Int) < j) = false := decide_eq_false (by omega)
                          have HPn : Hid (Part w5 rb mb m M p0 h0 t (k + 1) wr) := Lib.hid (by
                            have h1 := HJ2.out.1
                            rw [Hq.out, List.take_length] at h1
                            refine ⟨_, _, (h1.mono (by have := hq8; rw [Hq.out] at this; omega)), HRn.out.next (b := true) HB.out (fun x => ?_)⟩
                            rw [HMk.out, Bool.true_and])
                          go_wp2_with fail
                          go_round
                          case rel => exact ⟨k + 1, by omega, by go_num, HPn⟩
                          case measure => simp [intOf]; omega
                    | false =>
                      have HPn : Hid (Part w5 rb mb m M p0 h0 t (k + 1) wr) := Lib.hid (by
                        refine ⟨_, _, HJ.out.1.mono (by omega), HRn.out.next (b := false) (by rw [← HBk.out, decide_eq_false hkz]; rfl) (fun x => by simp)⟩)
                      go_wp2_with fail
                      go_round
                      case rel => exact ⟨k + 1, by omega, by go_num, HPn⟩
                      case measure => simp [intOf]; omega
            · obtain rfl : k = m := by omega
              have hd3 : decide ((k : Int) < k) = false := decide_eq_false (by omega)
              have HTn : Hid (Turn w5 rb mb k M (t + 1) wr) := Lib.hid ⟨p, h, HC.out.mono (by omega), HRn.out.cl, HRn.out.end HLk.out Hcl0.out htm Hcnt.out⟩
              go_wp2_with fail
              go_round
              case rel => exact ⟨t + 1, by omega, by go_num, HTn⟩
              case measure => simp [intOf]; omega
        · obtain rfl : t = m := by omega
          have hd2 : decide ((t : Int) < t) = false := decide_eq_false (by omega)
          obtain ⟨p, h, hC, -, hcnt⟩ := HT.out
          have HAll := Lib.hid (cnt_all hcnt)
          have HBs := Lib.hid hC.isB
          clear hC hcnt
          go_wp2_with fail
          clear cS
          obtain ⟨wt, rfl⟩ : ∃ x, x = wr := ⟨_, rfl⟩
          go_loopw [15] (fun i ws => ∃ k : Nat, k ≤ t ∧ i = .int .i64 k ∧ Hid (Below wt.heap.size wt ws)) (fun i _ => t - (intOf i).toNat)
          case atStart => exact ⟨0, Nat.zero_le _, by go_num, Lib.hid (Below.refl _ _)⟩
          case round =>
            obtain ⟨k, hk, rfl, HK⟩ := hrel
            by_cases hkt : k < t
            · have hd3 : decide ((k : Int) < t) = true := decide_eq_true (by omega)
              have hk0 : (0 : Int) ≤ k := by omega
              have hk1 : (k : Int) < t := by omega
              have cb := (HBs.out.below HK.out).cell hkt
              rw [HAll.out k hkt] at cb
              go_wp2_with fail
              go_round
              case rel => exact ⟨k + 1, by omega, by go_num, HK⟩
              case measure => simp [intOf]; omega
            · obtain rfl : k = t := by omega
              have hd3 : decide ((k : Int) < k) = false := decide_eq_false (by omega)
              have HBn := Lib.hid (below_step HBt.out HK.out)
              go_wp2_with fail
              go_round
              case rel => exact ⟨d + 1, by omega, by go_num, HBn⟩
              case measure => simp [intOf]; omega
    · obtain rfl : d = N := by omega
      have hd1 : decide ((d : Int) < d) = false := decide_eq_false (by omega)
      have HBe := Lib.hid (below_step HB5.out HD.out)
      go_wp2_with fail
      go_ret
      exact ⟨rfl, HBe.out⟩
end Go.Proofs.Ytolnpimnoajcaaa
