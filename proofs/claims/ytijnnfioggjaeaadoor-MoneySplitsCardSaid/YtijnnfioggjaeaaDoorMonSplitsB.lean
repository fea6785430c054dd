/- The statement on shares: the walk at greater amounts. -/
import Derived.Test.YtijnnfioggjaeaaDoorMonHead
import Derived.Test.YtijnnfioggjaeaaDoorMonTotal
import Derived.Test.YtijnnfioggjaeaaDoorMonSplitsMath
namespace Go.Proofs.YtijnnfioggjaeaaDoor
open Go.RowKit

set_option maxRecDepth 100000 in
set_option maxHeartbeats 16000000 in
theorem lawSplits_big (n s : Int) (zs : List Int) (len : Nat) (hlen : len = zs.length) (hl1 : 1 ≤ len) (hl2 : len ≤ 16) (hn1 : 0 ≤ n) (hn2 : n ≤ 1000000000000) (hz : ∀ z ∈ zs, 0 ≤ z ∧ z ≤ 9999999) (hs : s = zs.sum) (hpos : 0 < s) (hs2 : s ≤ 159999984) (bk off cap : Nat) (w : World) (hbk : bk < w.heap.size)
    (hc : ∀ k, (h : k < zs.length) → w.cell? ⟨bk, off + k, none⟩ = some (.int .i64 zs[k])) (hB : Mon.splitB n zs = true) (hle0 : ¬ n ≤ 1000000000) (ht : Tab w) :
    Calls Tryd.prog 4 #[.int .i64 n, .slice (some ⟨bk, off, none⟩) len cap] w fun e w' => e = .returned (.bool true) ∧ Below w.heap.size w w' := by
  have Hlen := Lib.hid hlen
  have HH := Lib.hid (head03_any w ht)
  have HZ : Hid (IsInts w (some ⟨bk, off, none⟩) zs) := Lib.hid (Or.inr ⟨bk, off, rfl, hbk, hc⟩)
  have HC := Lib.hid hc
  have HPt := Lib.hid (splits_point ⟨hn1, hn2⟩ hz hs hpos)
  have HOr := Lib.hid (splits_order ⟨hn1, hn2⟩ hz hs hpos)
  have HS : Hid (∀ W, IsInts W (some ⟨bk, off, none⟩) zs → Calls Tryd.prog 6 #[.int .i64 n, .slice (some ⟨bk, off, none⟩) len cap] W fun e w' => ∃ b2 o2 c2, e = .returned (.tuple #[.slice (some ⟨b2, o2, none⟩) len c2, .int .i64 0]) ∧ Below W.heap.size W w' ∧ b2 < w'.heap.size ∧ IsInts w' (some ⟨b2, o2, none⟩) (shares n s zs)) := Lib.hid fun W h => by
    have h1 := split_any n zs (by omega) (some ⟨bk, off, none⟩) cap W h
    have e1 : Mon.splitV n zs = shares n s zs := by unfold Mon.splitV; rw [if_pos hB, ← hs]
    have e2 : Mon.splitE n zs = 0 := by unfold Mon.splitE; rw [if_pos hB]
    rw [e1, e2, shares_len, ← hlen] at h1
    refine h1.mono ?_
    rintro e w' ⟨ao', cap', he, hb, hi⟩
    have hi2 := hi
    rcases hi with h0 | ⟨b2, o2, rfl, hb2, hc2⟩
    · have := shares_len n s zs; rw [h0] at this; simp at this; omega
    · exact ⟨b2, o2, cap', he, hb, hb2, hi2⟩
  have HT : Hid (∀ W, IsInts W (some ⟨bk, off, none⟩) zs → Calls Tryd.prog 15 #[.slice (some ⟨bk, off, none⟩) len cap] W fun e w' => e = .returned (.int .i64 s) ∧ W = w') := Lib.hid fun W h => by
    have := refTotal_any zs (by omega) (some ⟨bk, off, none⟩) cap W h
    have e : Mon.totR zs = s := by
      unfold Mon.totR; unfold Mon.splitB at hB; rw [Bool.and_eq_true] at hB; rw [if_pos hB.1, hs]
    rw [e, ← hlen] at this
    exact this
  have HU : Hid (∀ (ao : Option Addr) (cp : Nat) W, IsInts W ao (shares n s zs) → Calls Tryd.prog 16 #[.slice ao len cp] W fun e w' => e = .returned (.int .i64 n) ∧ W = w') := Lib.hid fun ao cp W h => by
    have := refSum_any (shares n s zs) (by rw [shares_len]; omega) (fun z hm => by
      obtain ⟨j, hj, rfl⟩ := List.getElem_of_mem hm
      rw [shares_len] at hj
      have e := shares_get (n := n) (s := s) hj
      rw [List.getElem?_eq_getElem (by rw [shares_len]; exact hj)] at e
      rw [Option.some.inj e]
      have := splits_point ⟨hn1, hn2⟩ hz hs hpos j hj
      omega) ao cp W h
    rw [shares_sum hs hpos, shares_len, ← hlen] at this
    exact this
  have h16 : ¬ (16 : Int) < len := by omega
  clear hz hs hlen hB ht hc
  go_enter Tryd.func4, Tryd.ntmps4
  go_wp2_with fail
  refine HH.out.mono ?_
  rintro e v1 ⟨rfl, hb⟩
  have HB1 := Lib.hid hb
  clear hb
  go_wp2_with fail
  refine (HS.out _ (HZ.out.below HB1.out)).mono ?_
  rintro e v2 ⟨b2, o2, c2, rfl, hb, hb2, hi⟩
  have HB2 := Lib.hid (below_step HB1.out hb)
  have HI := Lib.hid hi
  clear hb hi
  go_wp2_with fail
  refine (HT.out _ (HZ.out.below HB2.out)).mono ?_
  rintro e _ ⟨rfl, rfl⟩
  go_wp2_with fail
  refine (HU.out _ _ _ HI.out).mono ?_
  rintro e _ ⟨rfl, rfl⟩
  have HCz : Hid (∀ j, j < len → v2.cell? ⟨bk, off + j, none⟩ = some (.int .i64 (zs[j]?.getD 0))) := Lib.hid fun j hj => by
    have hj' : j < zs.length := by rw [← Hlen.out]; exact hj
    rw [HB2.out.cell (p := ⟨bk, off + j, none⟩) hbk, HC.out j hj', List.getElem?_eq_getElem hj']; rfl
  have HCc : Hid (∀ j, j < len → v2.cell? ⟨b2, o2 + j, none⟩ = some (.int .i64 (shareAt n s zs j))) := Lib.hid fun j hj => by
    have hj' : j < zs.length := by rw [← Hlen.out]; exact hj
    rcases HI.out with h0 | ⟨b3, o3, h1, h2, h3⟩
    · have := shares_len n s zs; rw [h0] at this; simp at this; omega
    · cases h1
      have hj2 : j < (shares n s zs).length := by rw [shares_len]; exact hj'
      rw [h3 j hj2]
      have e := shares_get (n := n) (s := s) hj'
      rw [List.getElem?_eq_getElem hj2] at e
      rw [Option.some.inj e]
  go_wp2
  go_loopw [9] (fun i wr => ∃ j : Nat, j ≤ len ∧ i = .int .i64 j ∧ Hid (Below v2.heap.size v2 wr)) (fun i _ => len - (intOf i).toNat)
  case atStart => exact ⟨0, by omega, rfl, Lib.hid (Below.refl _ _)⟩
  case round =>
    obtain ⟨j, hj, rfl, HB⟩ := hrel
    by_cases hlt : j < len
    · have hbk2 : bk < v2.heap.size := Nat.lt_of_lt_of_le hbk HB2.out.size
      obtain ⟨z, Hz⟩ : ∃ z, Hid (z = zs[j]?.getD 0) := ⟨_, Lib.hid rfl⟩
      obtain ⟨c, Hc⟩ : ∃ z, Hid (z = shareAt n s zs j) := ⟨_, Lib.hid rfl⟩
      have hj' : (j : Int) < len := by omega
      have hz1 : wr.cell? ⟨bk, off + j, none⟩ = some (.int .i64 z) := by rw [HB.out.cell (p := ⟨bk, off + j, none⟩) hbk2, HCz.out j hlt, Hz.out]
      have hc1 : wr.cell? ⟨b2, o2 + j, none⟩ = some (.int .i64 c) := by rw [HB.out.cell (p := ⟨b2, o2 + j, none⟩) hb2, HCc.out j hlt, Hc.out]
      have HP := Lib.hid (HPt.out j (by rw [← Hlen.out]; exact hlt))
      rw [← Hz.out, ← Hc.out] at HP
      obtain ⟨z0, z1, c0, c1, -, -, -⟩ := HP.out
      have c3 : ¬ c < 0 := by omega
      have HKf : Hid (∀ k, k < j → (z < zs[k]?.getD 0 ∧ c ≤ shareAt n s zs k) ∨ (zs[k]?.getD 0 < z ∧ shareAt n s zs k ≤ c) ∨ (zs[k]?.getD 0 = z ∧ c ≤ shareAt n s zs k ∧ shareAt n s zs k ≤ c + 1)) := Lib.hid fun k hk => by
        rw [Hz.out, Hc.out]; exact HOr.out k j hk (by rw [← Hlen.out]; exact hlt)
      have e1 : IntKind.i64.wrap (c + 1) = c + 1 := by rw [IntKind.wrap_i64]; omega
      by_cases hw0 : z = 0
      · have hcz : c = 0 := HP.out.2.2.2.2.1 hw0
        have hz0 : (z == 0) = true := by simp [hw0]
        have hcn : (c != 0) = false := by simp [hcz]
        have hcn2 : (c == 0) = true := by simp [hcz]
        clear hw0 hcz
        have hle : ¬ n ≤ 1000000000 := by omega
        obtain ⟨WW, HWW⟩ : ∃ W1, W1 = wr := ⟨_, rfl⟩
        subst HWW
        have HBW := HB
        have hz2 := hz1
        have hc2 := hc1
        clear hz1 hc1
        go_wp2

        go_loopw [11] (fun i wi => ∃ k : Nat, k ≤ j ∧ i = .int .i64 k ∧ Hid (Below v2.heap.size v2 wi)) (fun i _ => j - (intOf i).toNat)
        case atStart => exact ⟨0, by omega, rfl, HBW⟩
        case round =>
          obtain ⟨k, hk, rfl, HBi⟩ := hrel
          by_cases hkj : k < j
          · obtain ⟨y, Hy⟩ : ∃ z, Hid (z = zs[k]?.getD 0) := ⟨_, Lib.hid rfl⟩
            obtain ⟨d, Hd⟩ : ∃ z, Hid (z = shareAt n s zs k) := ⟨_, Lib.hid rfl⟩
            have hkj' : (k : Int) < j := by omega
            have hkl : (k : Int) < len := by omega
            have hy1 : wr.cell? ⟨bk, off + k, none⟩ = some (.int .i64 y) := by rw [HBi.out.cell (p := ⟨bk, off + k, none⟩) hbk2, HCz.out k (by omega), Hy.out]
            have hd1 : wr.cell? ⟨b2, o2 + k, none⟩ = some (.int .i64 d) := by rw [HBi.out.cell (p := ⟨b2, o2 + k, none⟩) hb2, HCc.out k (by omega), Hd.out]
            have hz3 : wr.cell? ⟨bk, off + j, none⟩ = some (.int .i64 z) := by rw [HBi.out.cell (p := ⟨bk, off + j, none⟩) hbk2, HCz.out j hlt, Hz.out]
            have hc3 : wr.cell? ⟨b2, o2 + j, none⟩ = some (.int .i64 c) := by rw [HBi.out.cell (p := ⟨b2, o2 + j, none⟩) hb2, HCc.out j hlt, Hc.out]
            have lz := lt_of_cell hz3
            have lc := lt_of_cell hc3
            have g1 : ∀ X : Grown wr, X.w.cell? ⟨bk, off + k, none⟩ = some (.int .i64 y) := fun X => by rw [X.cell lz, hy1]
            have g2 : ∀ X : Grown wr, X.w.cell? ⟨b2, o2 + k, none⟩ = some (.int .i64 d) := fun X => by rw [X.cell lc, hd1]
            have g3 : ∀ X : Grown wr, X.w.cell? ⟨bk, off + j, none⟩ = some (.int .i64 z) := fun X => by rw [X.cell lz, hz3]
            have g4 : ∀ X : Grown wr, X.w.cell? ⟨b2, o2 + j, none⟩ = some (.int .i64 c) := fun X => by rw [X.cell lc, hc3]
            clear hy1 hd1 hz3 hc3
            have HQ := Lib.hid (HKf.out k hkj)
            rw [← Hy.out, ← Hd.out] at HQ
            rcases HQ.out with ⟨q1, q2⟩ | ⟨q1, q2⟩ | ⟨q1, q2, q3⟩
            · as_aux_lemma =>
                have r1 : decide (d < c) = false := decide_eq_false (by omega)
                have r2 : decide (y < z) = false := decide_eq_false (by omega)
                have r3 : (y == z) = false := by simp; omega
                have r4 : decide (z < y) = true := decide_eq_true q1
                clear q2
                go_wp2_with fail
                refine wp_region_grown (by kernel_rfl) (by kernel_rfl) ?_
                try simp only [List.append]
                repeat (go_big_quiet_step (fail))
                refine wpQuiet_nil ?_
                rintro _ ⟨X, rfl⟩
                go_wp2
                go_roundw
                case rel => exact ⟨k + 1, by omega, by go_num, Lib.hid (below_step HBi.out X.below)⟩
                case measure => simp [intOf]; omega
            · as_aux_lemma =>
                have r1 : decide (c < d) = false := decide_eq_false (by omega)
                have r2 : decide (z < y) = false := decide_eq_false (by omega)
                have r3 : (y == z) = false := by simp; omega
                have r4 : decide (y < z) = true := decide_eq_true q1
                clear q2
                go_wp2_with fail
                refine wp_region_grown (by kernel_rfl) (by kernel_rfl) ?_
                try simp only [List.append]
                repeat (go_big_quiet_step (fail))
                refine wpQuiet_nil ?_
                rintro _ ⟨X, rfl⟩
                go_wp2
                go_roundw
                case rel => exact ⟨k + 1, by omega, by go_num, Lib.hid (below_step HBi.out X.below)⟩
                case measure => simp [intOf]; omega
            · as_aux_lemma =>
                have r1 : decide (d < c) = false := decide_eq_false (by omega)
                have r2 : decide (c + 1 < d) = false := decide_eq_false (by omega)
                have r3 : decide (z < z) = false := decide_eq_false (by omega)
                clear q2 q3 HQ Hy
                subst q1
                go_wp2_with fail
                refine wp_region_grown (by kernel_rfl) (by kernel_rfl) ?_
                try simp only [List.append]
                repeat (go_big_quiet_step (fail))
                refine wpQuiet_nil ?_
                rintro _ ⟨X, rfl⟩
                go_wp2
                go_roundw
                case rel => exact ⟨k + 1, by omega, by go_num, Lib.hid (below_step HBi.out X.below)⟩
                case measure => simp [intOf]; omega
          · obtain rfl : k = j := by omega
            go_wp2
            go_roundw
            case rel => exact ⟨k + 1, by omega, by go_num, HBi⟩
            case measure => simp [intOf]; omega
      · have hz0 : (z == 0) = false := by simp [hw0]
        clear hw0
        have hle : ¬ n ≤ 1000000000 := by omega
        obtain ⟨WW, HWW⟩ : ∃ W1, W1 = wr := ⟨_, rfl⟩
        subst HWW
        have HBW := HB
        have hz2 := hz1
        have hc2 := hc1
        clear hz1 hc1
        go_wp2

        go_loopw [11] (fun i wi => ∃ k : Nat, k ≤ j ∧ i = .int .i64 k ∧ Hid (Below v2.heap.size v2 wi)) (fun i _ => j - (intOf i).toNat)
        case atStart => exact ⟨0, by omega, rfl, HBW⟩
        case round =>
          obtain ⟨k, hk, rfl, HBi⟩ := hrel
          by_cases hkj : k < j
          · obtain ⟨y, Hy⟩ : ∃ z, Hid (z = zs[k]?.getD 0) := ⟨_, Lib.hid rfl⟩
            obtain ⟨d, Hd⟩ : ∃ z, Hid (z = shareAt n s zs k) := ⟨_, Lib.hid rfl⟩
            have hkj' : (k : Int) < j := by omega
            have hkl : (k : Int) < len := by omega
            have hy1 : wr.cell? ⟨bk, off + k, none⟩ = some (.int .i64 y) := by rw [HBi.out.cell (p := ⟨bk, off + k, none⟩) hbk2, HCz.out k (by omega), Hy.out]
            have hd1 : wr.cell? ⟨b2, o2 + k, none⟩ = some (.int .i64 d) := by rw [HBi.out.cell (p := ⟨b2, o2 + k, none⟩) hb2, HCc.out k (by omega), Hd.out]
            have hz3 : wr.cell? ⟨bk, off + j, none⟩ = some (.int .i64 z) := by rw [HBi.out.cell (p := ⟨bk, off + j, none⟩) hbk2, HCz.out j hlt, Hz.out]
            have hc3 : wr.cell? ⟨b2, o2 + j, none⟩ = some (.int .i64 c) := by rw [HBi.out.cell (p := ⟨b2, o2 + j, none⟩) hb2, HCc.out j hlt, Hc.out]
            have lz := lt_of_cell hz3
            have lc := lt_of_cell hc3
            have g1 : ∀ X : Grown wr, X.w.cell? ⟨bk, off + k, none⟩ = some (.int .i64 y) := fun X => by rw [X.cell lz, hy1]
            have g2 : ∀ X : Grown wr, X.w.cell? ⟨b2, o2 + k, none⟩ = some (.int .i64 d) := fun X => by rw [X.cell lc, hd1]
            have g3 : ∀ X : Grown wr, X.w.cell? ⟨bk, off + j, none⟩ = some (.int .i64 z) := fun X => by rw [X.cell lz, hz3]
            have g4 : ∀ X : Grown wr, X.w.cell? ⟨b2, o2 + j, none⟩ = some (.int .i64 c) := fun X => by rw [X.cell lc, hc3]
            clear hy1 hd1 hz3 hc3
            have HQ := Lib.hid (HKf.out k hkj)
            rw [← Hy.out, ← Hd.out] at HQ
            rcases HQ.out with ⟨q1, q2⟩ | ⟨q1, q2⟩ | ⟨q1, q2, q3⟩
            · as_aux_lemma =>
                have r1 : decide (d < c) = false := decide_eq_false (by omega)
                have r2 : decide (y < z) = false := decide_eq_false (by omega)
                have r3 : (y == z) = false := by simp; omega
                have r4 : decide (z < y) = true := decide_eq_true q1
                clear q2
                go_wp2_with fail
                refine wp_region_grown (by kernel_rfl) (by kernel_rfl) ?_
                try simp only [List.append]
                repeat (go_big_quiet_step (fail))
                refine wpQuiet_nil ?_
                rintro _ ⟨X, rfl⟩
                go_wp2
                go_roundw
                case rel => exact ⟨k + 1, by omega, by go_num, Lib.hid (below_step HBi.out X.below)⟩
                case measure => simp [intOf]; omega
            · as_aux_lemma =>
                have r1 : decide (c < d) = false := decide_eq_false (by omega)
                have r2 : decide (z < y) = false := decide_eq_false (by omega)
                have r3 : (y == z) = false := by simp; omega
                have r4 : decide (y < z) = true := decide_eq_true q1
                clear q2
                go_wp2_with fail
                refine wp_region_grown (by kernel_rfl) (by kernel_rfl) ?_
                try simp only [List.append]
                repeat (go_big_quiet_step (fail))
                refine wpQuiet_nil ?_
                rintro _ ⟨X, rfl⟩
                go_wp2
                go_roundw
                case rel => exact ⟨k + 1, by omega, by go_num, Lib.hid (below_step HBi.out X.below)⟩
                case measure => simp [intOf]; omega
            · as_aux_lemma =>
                have r1 : decide (d < c) = false := decide_eq_false (by omega)
                have r2 : decide (c + 1 < d) = false := decide_eq_false (by omega)
                have r3 : decide (z < z) = false := decide_eq_false (by omega)
                clear q2 q3 HQ Hy
                subst q1
                go_wp2_with fail
                refine wp_region_grown (by kernel_rfl) (by kernel_rfl) ?_
                try simp only [List.append]
                repeat (go_big_quiet_step (fail))
                refine wpQuiet_nil ?_
                rintro _ ⟨X, rfl⟩
                go_wp2
                go_roundw
                case rel => exact ⟨k + 1, by omega, by go_num, Lib.hid (below_step HBi.out X.below)⟩
                case measure => simp [intOf]; omega
          · obtain rfl : k = j := by omega
            go_wp2
            go_roundw
            case rel => exact ⟨k + 1, by omega, by go_num, HBi⟩
            case measure => simp [intOf]; omega
    · obtain rfl : len = j := by omega
      go_wp2
      go_ret
      exact ⟨rfl, HB2.out.trans (HB.out.mono HB2.out.size)⟩

end Go.Proofs.YtijnnfioggjaeaaDoor
