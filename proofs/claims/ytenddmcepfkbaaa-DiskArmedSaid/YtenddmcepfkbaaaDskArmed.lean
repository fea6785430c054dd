/- The statement on armed disks: its walk. -/
import Derived.Test.YtenddmcepfkbaaaDskArmMath
namespace Go.Proofs.Ytenddmcepfkbaaa
open Go.RowKit

set_option maxRecDepth 100000 in
set_option maxHeartbeats 2000000 in
theorem lawArmed_skip (x0 af x y : Int) (l : List Ac) (hn : l.length ≤ 9223372036854775807) (hz : ∀ a ∈ l, acFine a) (ao : Option Addr) (cap : Nat) (l2 : List Ac) (hn2 : l2.length ≤ 9223372036854775807) (hz2 : ∀ a ∈ l2, acFine a) (ao2 : Option Addr) (cap2 : Nat) (hbad : okB l = false ∨ (okB l = true ∧ okB l2 = false)) (w : World) (hl : IsActs w ao l) (hl2 : IsActs w ao2 l2) :
    Calls Try.prog 8 #[.int .u8 x0, .slice ao l.length cap, .slice ao2 l2.length cap2, .int .i64 af, .int .i64 x, .int .i64 y] w fun e w' => e = .returned (.bool true) ∧ Below w.heap.size w w' := by
  obtain ⟨L, HL⟩ : ∃ L, Hid (L = l.length) := ⟨_, Lib.hid rfl⟩
  obtain ⟨M, HM⟩ : ∃ M, Hid (M = l2.length) := ⟨_, Lib.hid rfl⟩
  have HAc := Lib.hid hl
  have HAc2 := Lib.hid hl2
  have HK : Hid (∀ W, IsActs W ao l → Calls Try.prog 12 #[.slice ao L cap] W fun e w' => e = .returned (.bool (okB l)) ∧ W = w') := Lib.hid fun W h => by
    rw [HL.out]; exact ok_any l hn (fun a ha => (hz a ha).1) ao cap W h
  have HK2 : Hid (∀ W, IsActs W ao2 l2 → Calls Try.prog 12 #[.slice ao2 M cap2] W fun e w' => e = .returned (.bool (okB l2)) ∧ W = w') := Lib.hid fun W h => by
    rw [HM.out]; exact ok_any l2 hn2 (fun a ha => (hz2 a ha).1) ao2 cap2 W h
  rw [← HL.out, ← HM.out]
  clear hn hz hl hn2 hz2 hl2
  go_enter Try.func8, Try.ntmps8
  go_wp2_with fail
  refine (head46_any _).mono ?_
  rintro e v1 ⟨rfl, hb⟩
  have HB := Lib.hid hb
  clear hb
  rcases hbad with h1 | ⟨h1, h2⟩
  · rw [h1] at HK
    go_wp2_with fail
    refine (HK.out _ (HAc.out.grown HB.out)).mono ?_
    rintro e _ ⟨rfl, rfl⟩
    go_wp2
    go_ret
    exact ⟨rfl, HB.out⟩
  · rw [h1] at HK
    rw [h2] at HK2
    go_wp2_with fail
    refine (HK.out _ (HAc.out.grown HB.out)).mono ?_
    rintro e _ ⟨rfl, rfl⟩
    go_wp2_with fail
    refine (HK2.out _ (HAc2.out.grown HB.out)).mono ?_
    rintro e _ ⟨rfl, rfl⟩
    go_wp2
    go_ret
    exact ⟨rfl, HB.out⟩

set_option maxRecDepth 100000 in
set_option maxHeartbeats 16000000 in
theorem lawArmed_main (x0 af x y : Int) (ha0 : -9223372036854775808 ≤ af) (ha1 : af ≤ 9223372036854775807) (hx0 : 0 ≤ x0) (hx1 : x0 ≤ 255) (n : Nat) (hnx : 1 + x0 % 12 = (n : Int)) (l : List Ac) (hz : ∀ a ∈ l, acFine a) (ao : Option Addr) (cap : Nat) (hk1 : okB l = true) (l2 : List Ac) (hz2 : ∀ a ∈ l2, acFine a) (ao2 : Option Addr) (cap2 : Nat) (hk2 : okB l2 = true) (w : World) (hl : IsActs w ao l) (hl2 : IsActs w ao2 l2) :
    Calls Try.prog 8 #[.int .u8 x0, .slice ao l.length cap, .slice ao2 l2.length cap2, .int .i64 af, .int .i64 x, .int .i64 y] w fun e w' => e = .returned (.bool true) ∧ Below w.heap.size w w' := by
  have HN : Hid (1 ≤ n ∧ n ≤ 12) := Lib.hid ⟨by omega, by omega⟩
  obtain ⟨L, HL⟩ : ∃ L, Hid (L = l.length) := ⟨_, Lib.hid rfl⟩
  have HAc := Lib.hid hl
  have HK : Hid (∀ W, IsActs W ao l → Calls Try.prog 12 #[.slice ao L cap] W fun e w' => e = .returned (.bool true) ∧ W = w') := Lib.hid fun W h => by
    have h1 := ok_any l (by have := (okB_iff.1 hk1).2; omega) (fun a ha => (hz a ha).1) ao cap W h
    rw [hk1] at h1
    rw [HL.out]; exact h1
  obtain ⟨M, HM⟩ : ∃ M, Hid (M = l2.length) := ⟨_, Lib.hid rfl⟩
  have HAc2 := Lib.hid hl2
  have HK2 : Hid (∀ W, IsActs W ao2 l2 → Calls Try.prog 12 #[.slice ao2 M cap2] W fun e w' => e = .returned (.bool true) ∧ W = w') := Lib.hid fun W h => by
    have h1 := ok_any l2 (by have := (okB_iff.1 hk2).2; omega) (fun a ha => (hz2 a ha).1) ao2 cap2 W h
    rw [hk2] at h1
    rw [HM.out]; exact h1
  have Hok2 := Lib.hid (okB_iff.1 hk2)
  have hM60 : (M : Int) ≤ 60 := by have := Hok2.out.2; have := HM.out; omega
  have HSz : Hid (∀ W, Calls Try.prog 14 #[.int .u8 x0] W fun e w' => e = .returned (.int .i64 (n : Int)) ∧ W = w') := Lib.hid fun W => by
    have := size_any x0 hx0 hx1 W
    rw [hnx] at this
    exact this
  have Hok := Lib.hid (okB_iff.1 hk1)
  have HZ := Lib.hid hz
  have hL60 : (L : Int) ≤ 60 := by have := Hok.out.2; have := HL.out; omega
  have HSame : Hid (∀ (W : World) (ss tt : List ByteArray) (g g' c c' : Nat), ss.length = n → tt.length = n → SRow W g ss → SRow W g' tt → Calls Try.prog 27 #[.slice (some ⟨g, 0, none⟩) n c, .slice (some ⟨g', 0, none⟩) n c'] W fun e w' => e = .returned (.bool (decide (ss = tt))) ∧ Below W.heap.size W w') := Lib.hid fun W ss tt g g' c c' h1 h2 h3 h4 => same_rows h1 h2 (by omega) h3 h4
  rw [← HL.out, ← HM.out]
  clear hz hl hk1 hx0 hx1 hnx hz2 hl2 hk2
  go_enter Try.func8, Try.ntmps8
  go_wp2_with fail
  refine (head46_any _).mono ?_
  rintro e v1 ⟨rfl, hb⟩
  have HB := Lib.hid hb
  clear hb
  go_wp2_with fail
  refine (HK.out _ (HAc.out.grown HB.out)).mono ?_
  rintro e _ ⟨rfl, rfl⟩
  go_wp2_with fail
  refine (HK2.out _ (HAc2.out.grown HB.out)).mono ?_
  rintro e _ ⟨rfl, rfl⟩
  go_wp2_with fail
  refine (HSz.out _).mono ?_
  rintro e _ ⟨rfl, rfl⟩
  go_wp2_with fail
  refine (new_any n HN.out.1 (by have := HN.out.2; omega) _).mono ?_
  rintro e v2 ⟨b, rfl, hb, hbn, bs, hbsn, hi⟩
  have HS0 : Hid (St n w (fun _ => False) v2 b bs (Dsk.zero n)) := Lib.hid (St.new (below_step HB.out hb) hi (fun j hj => Nat.le_trans HB.out.size (new_foot hbn hbsn j hj)))
  clear hb hbn hbsn hi
  go_wp2_with fail
  refine (new_any n HN.out.1 (by have := HN.out.2; omega) _).mono ?_
  rintro e v3 ⟨c, rfl, hb, hbn, cs, hbsn, hi⟩
  have HS1 : Hid (St2 n w (fun _ => False) v3 b bs (Dsk.zero n) c cs (Dsk.zero n)) := Lib.hid (St2.new HS0.out hb hi (new_foot hbn hbsn))
  clear hb hbn hbsn hi
  go_wp2
  go_loopw [17] (fun i wr => ∃ j : Nat, j ≤ L ∧ i = .int .i64 j ∧ Hid (St2 n w (fun _ => False) wr b bs (runD n (Dsk.zero n) (l.take j)) c cs (runD n (Dsk.zero n) (l.take j)))) (fun i _ => L - (intOf i).toNat)
  case atStart => exact ⟨0, by omega, rfl, HS1⟩
  case round =>
    obtain ⟨j, hj, rfl, HS⟩ := hrel
    by_cases hlt : j < L
    · have hjl : j < l.length := by rw [← HL.out]; exact hlt
      have hlt' : (j : Int) < L := by omega
      obtain ⟨bk, off, rfl, hbk, hact⟩ := HAc.out.at hjl
      obtain ⟨a, Ha⟩ : ∃ a, Hid (a = l[j]) := ⟨_, Lib.hid rfl⟩
      rw [← Ha.out] at hact
      have HAct := Lib.hid hact
      have hat : a.text.size ≤ 100 := by rw [Ha.out]; exact Hok.out.1 _ (List.getElem_mem _)
      have HTt := Lib.hid hat
      have HFt : Hid (fits (runD n (Dsk.zero n) (l.take j)) (l.take j).length ∧ (l.take j).length ≤ 1000) := Lib.hid ⟨run_fits (fun c hc => HZ.out c (List.mem_of_mem_take hc)) (zero_fits n), by rw [List.length_take]; omega⟩
      obtain ⟨x1, x2, x3, x4, x5, x6⟩ := HAct.out.below HS.out.first.toBelow hbk
      clear hact hat
      go_wp2_with fail
      refine (HS.out.act a HTt.out HFt.out.1 HFt.out.2).mono ?_
      rintro e wn ⟨rfl, hs⟩
      have HSn := Lib.hid hs
      clear hs x1 x2 x3 x4 x5 x6
      obtain ⟨x1, x2, x3, x4, x5, x6⟩ := HAct.out.below HSn.out.first.toBelow hbk
      go_wp2_with fail
      refine (HSn.out.swap.act a HTt.out HFt.out.1 HFt.out.2).mono ?_
      rintro e wm ⟨rfl, hs⟩
      have HSm := Lib.hid hs.swap
      clear hs x1 x2 x3 x4 x5 x6
      go_wp2
      go_roundw
      case rel => exact ⟨j + 1, by omega, by go_num, Lib.hid (by rw [runD_take hjl, ← Ha.out]; exact HSm.out)⟩
      case measure => simp [intOf]; omega
    · obtain rfl : L = j := by omega
      obtain ⟨D1, HD1⟩ : ∃ D1, Hid (D1 = runD n (Dsk.zero n) (l.take L)) := ⟨_, Lib.hid rfl⟩
      have HF1 : Hid (fits D1 60) := Lib.hid (by
        rw [HD1.out]
        exact (run_fits (fun c hc => HZ.out c (List.mem_of_mem_take hc)) (zero_fits n)).mono (by rw [List.length_take]; omega))
      rw [← HD1.out] at HS
      obtain ⟨D2, HD2⟩ : ∃ D2, Hid (D2 = Dsk.startD D1) := ⟨_, Lib.hid rfl⟩
      have HF2 : Hid (fits D2 60) := Lib.hid (by rw [HD2.out]; exact start_fits HF1.out)
      have HC2 : Hid (Calm D2) := Lib.hid (by rw [HD2.out]; exact start_calm _)
      have HArm0 : Hid (Arm af x y (Dsk.armD D2 af x y) D2) := Lib.hid (arm_start HC2.out af x y)
      have HFA0 : Hid (fits (Dsk.armD D2 af x y) 60) := Lib.hid (by unfold Dsk.armD; rw [HC2.out.1]; exact ⟨ha1, HF2.out.2⟩)
      go_wp2_with fail
      refine (HS.out.run (D' := D2) (fun pv h => by rw [HD2.out]; exact start_any h)).mono ?_
      rintro e wn ⟨rfl, hs⟩
      replace HS := Lib.hid hs
      clear hs
      go_wp2_with fail
      refine (HS.out.run2 (E' := D2) (fun pv h => by rw [HD2.out]; exact start_any h)).mono ?_
      rintro e wn ⟨rfl, hs⟩
      replace HS := Lib.hid hs
      clear hs
      go_wp2_with fail
      refine (HS.out.run (D' := Dsk.armD D2 af x y) (fun pv h => arm_any h af x y)).mono ?_
      rintro e wn ⟨rfl, hs⟩
      replace HS := Lib.hid hs
      clear hs
      go_wp2
      go_loopw [18, 19] (fun d i wr => ∃ j : Nat, j ≤ M ∧ i = .int .i64 j ∧ ∃ kk : Int, d = .int .i64 kk ∧ kk ≤ af ∧ (af < 0 → kk = af) ∧ (0 ≤ af → 0 ≤ kk) ∧ Hid (∃ A B, St2 n w (fun _ => False) wr b bs A c cs B ∧ Arm kk x y A B ∧ fits A (60 + j) ∧ fits B (60 + j))) (fun _ i _ => M - (intOf i).toNat)
      case atStart => exact ⟨0, by omega, rfl, af, rfl, by omega, fun _ => rfl, fun h => h, Lib.hid ⟨_, _, HS.out, HArm0.out, HFA0.out, HF2.out⟩⟩
      case round =>
        obtain ⟨j, hj, rfl, kk, rfl, hkk, hkn, hkp, HE⟩ := hrel
        obtain ⟨A, B, hS, hA, hfa, hfb⟩ := HE.out
        replace HS := Lib.hid hS
        have HA := Lib.hid hA
        have HFA := Lib.hid hfa
        have HFB := Lib.hid hfb
        clear hS hA hfa hfb HE
        by_cases hlt : j < M
        · have hlt' : (j : Int) < M := by omega
          have hjl : j < l2.length := by rw [← HM.out]; exact hlt
          obtain ⟨bk, off, rfl, hbk, hact⟩ := HAc2.out.at hjl
          obtain ⟨a', Ha⟩ : ∃ a, Hid (a = l2[j]) := ⟨_, Lib.hid rfl⟩
          have hts : a'.text.size ≤ 100 := by rw [Ha.out]; exact Hok2.out.1 _ (List.getElem_mem _)
          rw [← Ha.out] at hact
          clear Ha
          obtain ⟨k, s, y', t, odd, f⟩ := a'
          obtain ⟨T, HT⟩ : ∃ T, Hid (T = textV odd t) := ⟨_, Lib.hid rfl⟩
          have HXt : Hid (∀ W, Calls Try.prog 24 #[.agg #[.int .i64 k, .int .i64 s, .int .i64 y', .string t, .bool odd, .int .i64 f]] W fun e w' => e = .returned (.string T) ∧ Below W.heap.size W w') := Lib.hid fun W => by
            rw [HT.out]; exact text_any ⟨k, s, y', t, odd, f⟩ hts W
          have HTs : Hid (T.size ≤ 9223372036854775807) := Lib.hid (by rw [HT.out]; exact textV_size odd t hts)
          have HAt := Lib.hid (And.intro hact hbk)
          clear hact hbk hts
          by_cases hk2 : k = 2
          · subst hk2
            obtain ⟨x1, x2, x3, x4, x5, x6⟩ := HAt.out.1.below HS.out.first.toBelow HAt.out.2
            by_cases hk0 : kk = 0
            · subst hk0
              have hc' : ¬ af < 0 := by omega
              have HD := Lib.hid (arm_sync_dies HA.out)
              have HEq : Hid ((Dsk.syncD A).st = (Dsk.fail B x y).st ∧ (Dsk.syncD A).pd = (Dsk.fail B x y).pd) := Lib.hid HD.out.2
              go_wp2_with fail
              refine (HS.out.run2 (E' := Dsk.fail B x y) (fun pv h => fail_any h x y)).mono ?_
              rintro e wn ⟨rfl, hs⟩
              replace HS := Lib.hid hs
              clear hs
              go_wp2_with fail
              refine (HS.out.run (D' := Dsk.syncD A) (fun pv h => by have := sync_any h HFA.out.1; rw [HD.out.1] at this; exact this)).mono ?_
              rintro e wn ⟨rfl, hs⟩
              replace HS := Lib.hid hs
              clear hs
              go_wp2_with fail
              refine (HS.out.run (D' := Dsk.startD _) (fun pv h => start_any h)).mono ?_
              rintro e wn ⟨rfl, hs⟩
              replace HS := Lib.hid hs
              clear hs
              go_wp2_with fail
              refine (HS.out.run2 (E' := Dsk.startD _) (fun pv h => start_any h)).mono ?_
              rintro e wn ⟨rfl, hs⟩
              replace HS := Lib.hid hs
              clear hs
              go_wp2_with fail
              refine (HS.out.first.contents rfl).mono ?_
              rintro e wc ⟨g2, capb, rfl, hb, hg2, hr2⟩
              replace HS := Lib.hid (HS.out.below hb)
              have HR2 := Lib.hid hr2
              clear hb hg2 hr2
              go_wp2_with fail
              refine (HS.out.swap.first.contents rfl).mono ?_
              rintro e wd ⟨g3, capc, rfl, hb, hg3, hr3⟩
              replace HS := Lib.hid (HS.out.below hb)
              have HR3 := Lib.hid hr3
              replace HR2 := Lib.hid (HR2.out.below hb)
              clear hb hg3 hr3
              go_wp2_with fail
              refine (HSame.out _ _ _ _ _ _ _ (seenL_len _ _) (seenL_len _ _) HR2.out HR3.out).mono ?_
              rintro e we ⟨rfl, hb⟩
              rw [decide_eq_true (arm_seen n HEq.out.1 HEq.out.2)]
              replace HS := Lib.hid (HS.out.below hb)
              clear hb
              go_wp2
              go_ret
              exact ⟨rfl, HS.out.first.toBelow⟩
            · have HW := Lib.hid (arm_sync HA.out hk0)
              have HWB := Lib.hid (calm_sync HA.out.2.2.2.1)
              have hkb : (kk == 0) = false := by simp [hk0]
              go_wp2_with fail
              refine (HS.out.run2 (E' := Dsk.syncD B) (fun pv h => by have := sync_any h HFB.out.1; rw [HWB.out.2.1] at this; exact this)).mono ?_
              rintro e wn ⟨rfl, hs⟩
              replace HS := Lib.hid hs
              clear hs
              go_wp2_with fail
              refine (HS.out.run (D' := Dsk.syncD A) (fun pv h => by have := sync_any h HFA.out.1; rw [HW.out.1] at this; exact this)).mono ?_
              rintro e wn ⟨rfl, hs⟩
              replace HS := Lib.hid hs
              clear hs
              by_cases hkq : 0 < kk
              · go_wp2
                go_roundw
                case rel => exact ⟨j + 1, by omega, by go_num, kk - 1, by go_num, by omega, by omega, by omega, Lib.hid ⟨_, _, HS.out, by have := HW.out.2; rw [if_pos hkq] at this; exact this, (sync_fits HFA.out).mono (by omega), (sync_fits HFB.out).mono (by omega)⟩⟩
                case measure => simp [intOf]; omega
              · go_wp2
                go_roundw
                case rel => exact ⟨j + 1, by omega, by go_num, kk, by go_num, by omega, by omega, by omega, Lib.hid ⟨_, _, HS.out, by have := HW.out.2; rw [if_neg (show ¬ 0 < kk by omega)] at this; exact this, (sync_fits HFA.out).mono (by omega), (sync_fits HFB.out).mono (by omega)⟩⟩
                case measure => simp [intOf]; omega
          · have hkc : (k == 2) = false := by simp [hk2]
            obtain ⟨x1, x2, x3, x4, x5, x6⟩ := HAt.out.1.below HS.out.first.toBelow HAt.out.2
            have hltW : bk < wr.heap.size := Nat.lt_of_lt_of_le HAt.out.2 HS.out.first.toBelow.size
            have p1 : ∀ X : Grown wr, X.w.cell? ⟨bk, off + j * 6, none⟩ = some (.int .i64 k) := fun X => by rw [X.cell hltW, x1]
            have p2 : ∀ X : Grown wr, X.w.cell? ⟨bk, off + j * 6 + 1, none⟩ = some (.int .i64 s) := fun X => by rw [X.cell hltW, x2]
            have p3 : ∀ X : Grown wr, X.w.cell? ⟨bk, off + j * 6 + 2, none⟩ = some (.int .i64 y') := fun X => by rw [X.cell hltW, x3]
            have p4 : ∀ X : Grown wr, X.w.cell? ⟨bk, off + j * 6 + 3, none⟩ = some (.string t) := fun X => by rw [X.cell hltW, x4]
            have p5 : ∀ X : Grown wr, X.w.cell? ⟨bk, off + j * 6 + 4, none⟩ = some (.bool odd) := fun X => by rw [X.cell hltW, x5]
            have p6 : ∀ X : Grown wr, X.w.cell? ⟨bk, off + j * 6 + 5, none⟩ = some (.int .i64 f) := fun X => by rw [X.cell hltW, x6]
            go_wp2_with fail
            refine wp_region_grown_tail 11 (by kernel_rfl) (by kernel_rfl) ?_
            simp only [List.take_succ_cons, List.take_zero, List.drop_succ_cons, List.drop_zero]
            repeat (go_big_quiet_step ((go_at_call 24; exact grown_of (HXt.out _))))
            refine wpQuiet_nil ?_
            intro Z
            replace HS := Lib.hid (HS.out.below Z.below)
            clear p1 p2 p3 p4 p5 p6
            cases hv : (Dsk.has n s && (T.size == 64))
            · have HW := Lib.hid (arm_write_no (n := n) HA.out hv)
              clear hv
              go_wp2_with fail
              refine (HS.out.run2 (E' := B) (fun pv h => by have := write_any h s T HTs.out (by have := HFB.out.2; omega) HFB.out.1; rw [HW.out.2.2.1, HW.out.2.2.2] at this; exact this)).mono ?_
              rintro e wn ⟨rfl, hs⟩
              replace HS := Lib.hid hs
              clear hs
              obtain ⟨x1, x2, x3, x4, x5, x6⟩ := HAt.out.1.below HS.out.first.toBelow HAt.out.2
              have hltW : bk < wn.heap.size := Nat.lt_of_lt_of_le HAt.out.2 HS.out.first.toBelow.size
              have p1 : ∀ X : Grown wn, X.w.cell? ⟨bk, off + j * 6, none⟩ = some (.int .i64 k) := fun X => by rw [X.cell hltW, x1]
              have p2 : ∀ X : Grown wn, X.w.cell? ⟨bk, off + j * 6 + 1, none⟩ = some (.int .i64 s) := fun X => by rw [X.cell hltW, x2]
              have p3 : ∀ X : Grown wn, X.w.cell? ⟨bk, off + j * 6 + 2, none⟩ = some (.int .i64 y') := fun X => by rw [X.cell hltW, x3]
              have p4 : ∀ X : Grown wn, X.w.cell? ⟨bk, off + j * 6 + 3, none⟩ = some (.string t) := fun X => by rw [X.cell hltW, x4]
              have p5 : ∀ X : Grown wn, X.w.cell? ⟨bk, off + j * 6 + 4, none⟩ = some (.bool odd) := fun X => by rw [X.cell hltW, x5]
              have p6 : ∀ X : Grown wn, X.w.cell? ⟨bk, off + j * 6 + 5, none⟩ = some (.int .i64 f) := fun X => by rw [X.cell hltW, x6]
              go_wp2_with fail
              refine wp_region_grown_tail 11 (by kernel_rfl) (by kernel_rfl) ?_
              simp only [List.take_succ_cons, List.take_zero, List.drop_succ_cons, List.drop_zero]
              repeat (go_big_quiet_step ((go_at_call 24; exact grown_of (HXt.out _))))
              refine wpQuiet_nil ?_
              intro Z
              replace HS := Lib.hid (HS.out.below Z.below)
              clear p1 p2 p3 p4 p5 p6
              go_wp2_with fail
              refine (HS.out.run (D' := A) (fun pv h => by have := write_any h s T HTs.out (by have := HFA.out.2; omega) HFA.out.1; rw [HW.out.1, HW.out.2.1] at this; exact this)).mono ?_
              rintro e wn ⟨rfl, hs⟩
              replace HS := Lib.hid hs
              clear hs
              go_wp2
              go_roundw
              case rel => exact ⟨j + 1, by omega, by go_num, kk, by go_num, by omega, by omega, by omega, Lib.hid ⟨A, B, HS.out, HA.out, HFA.out.mono (by omega), HFB.out.mono (by omega)⟩⟩
              case measure => simp [intOf]; omega
            · have HWB := Lib.hid (arm_write_b (n := n) HA.out hv)
              by_cases hk0 : kk = 0
              · subst hk0
                have hc' : ¬ af < 0 := by omega
                have HD := Lib.hid (arm_write_dies (n := n) HA.out hv)
                have HEq : Hid ((Dsk.writeD n A s T).st = (Dsk.fail (Dsk.added B s T) x y).st ∧ (Dsk.writeD n A s T).pd = (Dsk.fail (Dsk.added B s T) x y).pd) := Lib.hid HD.out.2
                clear hv
                go_wp2_with fail
                refine (HS.out.run2 (E' := Dsk.added B s T) (fun pv h => by have := write_any h s T HTs.out (by have := HFB.out.2; omega) HFB.out.1; rw [HWB.out.1, HWB.out.2] at this; exact this)).mono ?_
                rintro e wn ⟨rfl, hs⟩
                replace HS := Lib.hid hs
                clear hs
                go_wp2_with fail
                refine (HS.out.run2 (E' := Dsk.fail (Dsk.added B s T) x y) (fun pv h => fail_any h x y)).mono ?_
                rintro e wn ⟨rfl, hs⟩
                replace HS := Lib.hid hs
                clear hs
                obtain ⟨x1, x2, x3, x4, x5, x6⟩ := HAt.out.1.below HS.out.first.toBelow HAt.out.2
                have hltW : bk < wn.heap.size := Nat.lt_of_lt_of_le HAt.out.2 HS.out.first.toBelow.size
                have p1 : ∀ X : Grown wn, X.w.cell? ⟨bk, off + j * 6, none⟩ = some (.int .i64 k) := fun X => by rw [X.cell hltW, x1]
                have p2 : ∀ X : Grown wn, X.w.cell? ⟨bk, off + j * 6 + 1, none⟩ = some (.int .i64 s) := fun X => by rw [X.cell hltW, x2]
                have p3 : ∀ X : Grown wn, X.w.cell? ⟨bk, off + j * 6 + 2, none⟩ = some (.int .i64 y') := fun X => by rw [X.cell hltW, x3]
                have p4 : ∀ X : Grown wn, X.w.cell? ⟨bk, off + j * 6 + 3, none⟩ = some (.string t) := fun X => by rw [X.cell hltW, x4]
                have p5 : ∀ X : Grown wn, X.w.cell? ⟨bk, off + j * 6 + 4, none⟩ = some (.bool odd) := fun X => by rw [X.cell hltW, x5]
                have p6 : ∀ X : Grown wn, X.w.cell? ⟨bk, off + j * 6 + 5, none⟩ = some (.int .i64 f) := fun X => by rw [X.cell hltW, x6]
                go_wp2_with fail
                refine wp_region_grown_tail 11 (by kernel_rfl) (by kernel_rfl) ?_
                simp only [List.take_succ_cons, List.take_zero, List.drop_succ_cons, List.drop_zero]
                repeat (go_big_quiet_step ((go_at_call 24; exact grown_of (HXt.out _))))
                refine wpQuiet_nil ?_
                intro Z
                replace HS := Lib.hid (HS.out.below Z.below)
                clear p1 p2 p3 p4 p5 p6
                go_wp2_with fail
                refine (HS.out.run (D' := Dsk.writeD n A s T) (fun pv h => by have := write_any h s T HTs.out (by have := HFA.out.2; omega) HFA.out.1; rw [HD.out.1] at this; exact this)).mono ?_
                rintro e wn ⟨rfl, hs⟩
                replace HS := Lib.hid hs
                clear hs
                go_wp2_with fail
                refine (HS.out.run (D' := Dsk.startD _) (fun pv h => start_any h)).mono ?_
                rintro e wn ⟨rfl, hs⟩
                replace HS := Lib.hid hs
                clear hs
                go_wp2_with fail
                refine (HS.out.run2 (E' := Dsk.startD _) (fun pv h => start_any h)).mono ?_
                rintro e wn ⟨rfl, hs⟩
                replace HS := Lib.hid hs
                clear hs
                go_wp2_with fail
                refine (HS.out.first.contents rfl).mono ?_
                rintro e wc ⟨g2, capb, rfl, hb, hg2, hr2⟩
                replace HS := Lib.hid (HS.out.below hb)
                have HR2 := Lib.hid hr2
                clear hb hg2 hr2
                go_wp2_with fail
                refine (HS.out.swap.first.contents rfl).mono ?_
                rintro e wd ⟨g3, capc, rfl, hb, hg3, hr3⟩
                replace HS := Lib.hid (HS.out.below hb)
                have HR3 := Lib.hid hr3
                replace HR2 := Lib.hid (HR2.out.below hb)
                clear hb hg3 hr3
                go_wp2_with fail
                refine (HSame.out _ _ _ _ _ _ _ (seenL_len _ _) (seenL_len _ _) HR2.out HR3.out).mono ?_
                rintro e we ⟨rfl, hb⟩
                rw [decide_eq_true (arm_seen n HEq.out.1 HEq.out.2)]
                replace HS := Lib.hid (HS.out.below hb)
                clear hb
                go_wp2
                go_ret
                exact ⟨rfl, HS.out.first.toBelow⟩
              · have HW := Lib.hid (arm_write (n := n) HA.out hv hk0)
                have hkb : (kk == 0) = false := by simp [hk0]
                have HFb2 : Hid (fits (Dsk.added B s T) (60 + (j + 1))) := Lib.hid (by have := write_fits (n := n) HFB.out s T; rw [HWB.out.2] at this; exact this.mono (by omega))
                have HFa2 : Hid (fits (Dsk.writeD n A s T) (60 + (j + 1))) := Lib.hid ((write_fits (n := n) HFA.out s T).mono (by omega))
                clear hv
                go_wp2_with fail
                refine (HS.out.run2 (E' := Dsk.added B s T) (fun pv h => by have := write_any h s T HTs.out (by have := HFB.out.2; omega) HFB.out.1; rw [HWB.out.1, HWB.out.2] at this; exact this)).mono ?_
                rintro e wn ⟨rfl, hs⟩
                replace HS := Lib.hid hs
                clear hs
                obtain ⟨x1, x2, x3, x4, x5, x6⟩ := HAt.out.1.below HS.out.first.toBelow HAt.out.2
                have hltW : bk < wn.heap.size := Nat.lt_of_lt_of_le HAt.out.2 HS.out.first.toBelow.size
                have p1 : ∀ X : Grown wn, X.w.cell? ⟨bk, off + j * 6, none⟩ = some (.int .i64 k) := fun X => by rw [X.cell hltW, x1]
                have p2 : ∀ X : Grown wn, X.w.cell? ⟨bk, off + j * 6 + 1, none⟩ = some (.int .i64 s) := fun X => by rw [X.cell hltW, x2]
                have p3 : ∀ X : Grown wn, X.w.cell? ⟨bk, off + j * 6 + 2, none⟩ = some (.int .i64 y') := fun X => by rw [X.cell hltW, x3]
                have p4 : ∀ X : Grown wn, X.w.cell? ⟨bk, off + j * 6 + 3, none⟩ = some (.string t) := fun X => by rw [X.cell hltW, x4]
                have p5 : ∀ X : Grown wn, X.w.cell? ⟨bk, off + j * 6 + 4, none⟩ = some (.bool odd) := fun X => by rw [X.cell hltW, x5]
                have p6 : ∀ X : Grown wn, X.w.cell? ⟨bk, off + j * 6 + 5, none⟩ = some (.int .i64 f) := fun X => by rw [X.cell hltW, x6]
                go_wp2_with fail
                refine wp_region_grown_tail 11 (by kernel_rfl) (by kernel_rfl) ?_
                simp only [List.take_succ_cons, List.take_zero, List.drop_succ_cons, List.drop_zero]
                repeat (go_big_quiet_step ((go_at_call 24; exact grown_of (HXt.out _))))
                refine wpQuiet_nil ?_
                intro Z
                replace HS := Lib.hid (HS.out.below Z.below)
                clear p1 p2 p3 p4 p5 p6
                go_wp2_with fail
                refine (HS.out.run (D' := Dsk.writeD n A s T) (fun pv h => by have := write_any h s T HTs.out (by have := HFA.out.2; omega) HFA.out.1; rw [HW.out.1] at this; exact this)).mono ?_
                rintro e wn ⟨rfl, hs⟩
                replace HS := Lib.hid hs
                clear hs
                by_cases hkq : 0 < kk
                · go_wp2
                  go_roundw
                  case rel => exact ⟨j + 1, by omega, by go_num, kk - 1, by go_num, by omega, by omega, by omega, Lib.hid ⟨_, _, HS.out, by have := HW.out.2; rw [if_pos hkq] at this; exact this, HFa2.out, HFb2.out⟩⟩
                  case measure => simp [intOf]; omega
                · go_wp2
                  go_roundw
                  case rel => exact ⟨j + 1, by omega, by go_num, kk, by go_num, by omega, by omega, by omega, Lib.hid ⟨_, _, HS.out, by have := HW.out.2; rw [if_neg (show ¬ 0 < kk by omega)] at this; exact this, HFa2.out, HFb2.out⟩⟩
                  case measure => simp [intOf]; omega
        · obtain rfl : M = j := by omega
          have HEq : Hid (A.st = B.st ∧ A.pd = B.pd) := Lib.hid ⟨HA.out.1, HA.out.2.1⟩
          have hcase : af < 0 ∨ 0 ≤ af := by omega
          rcases hcase with hc | hc
          · obtain rfl := hkn hc
            go_wp2_with fail
            refine (HS.out.run (D' := Dsk.startD _) (fun pv h => start_any h)).mono ?_
            rintro e wn ⟨rfl, hs⟩
            replace HS := Lib.hid hs
            clear hs
            go_wp2_with fail
            refine (HS.out.run2 (E' := Dsk.startD _) (fun pv h => start_any h)).mono ?_
            rintro e wn ⟨rfl, hs⟩
            replace HS := Lib.hid hs
            clear hs
            go_wp2_with fail
            refine (HS.out.first.contents rfl).mono ?_
            rintro e wc ⟨g2, capb, rfl, hb, hg2, hr2⟩
            replace HS := Lib.hid (HS.out.below hb)
            have HR2 := Lib.hid hr2
            clear hb hg2 hr2
            go_wp2_with fail
            refine (HS.out.swap.first.contents rfl).mono ?_
            rintro e wd ⟨g3, capc, rfl, hb, hg3, hr3⟩
            replace HS := Lib.hid (HS.out.below hb)
            have HR3 := Lib.hid hr3
            replace HR2 := Lib.hid (HR2.out.below hb)
            clear hb hg3 hr3
            go_wp2_with fail
            refine (HSame.out _ _ _ _ _ _ _ (seenL_len _ _) (seenL_len _ _) HR2.out HR3.out).mono ?_
            rintro e we ⟨rfl, hb⟩
            rw [decide_eq_true (arm_seen n HEq.out.1 HEq.out.2)]
            replace HS := Lib.hid (HS.out.below hb)
            clear hb
            go_wp2
            go_ret
            exact ⟨rfl, HS.out.first.toBelow⟩
          · have hc' : ¬ af < 0 := by omega
            go_wp2_with fail
            refine (HS.out.run (D' := Dsk.startD _) (fun pv h => start_any h)).mono ?_
            rintro e wn ⟨rfl, hs⟩
            replace HS := Lib.hid hs
            clear hs
            go_wp2_with fail
            refine (HS.out.run2 (E' := Dsk.startD _) (fun pv h => start_any h)).mono ?_
            rintro e wn ⟨rfl, hs⟩
            replace HS := Lib.hid hs
            clear hs
            go_wp2_with fail
            refine (HS.out.first.contents rfl).mono ?_
            rintro e wc ⟨g2, capb, rfl, hb, hg2, hr2⟩
            replace HS := Lib.hid (HS.out.below hb)
            have HR2 := Lib.hid hr2
            clear hb hg2 hr2
            go_wp2_with fail
            refine (HS.out.swap.first.contents rfl).mono ?_
            rintro e wd ⟨g3, capc, rfl, hb, hg3, hr3⟩
            replace HS := Lib.hid (HS.out.below hb)
            have HR3 := Lib.hid hr3
            replace HR2 := Lib.hid (HR2.out.below hb)
            clear hb hg3 hr3
            go_wp2_with fail
            refine (HSame.out _ _ _ _ _ _ _ (seenL_len _ _) (seenL_len _ _) HR2.out HR3.out).mono ?_
            rintro e we ⟨rfl, hb⟩
            rw [decide_eq_true (arm_seen n HEq.out.1 HEq.out.2)]
            replace HS := Lib.hid (HS.out.below hb)
            clear hb
            go_wp2
            go_ret
            exact ⟨rfl, HS.out.first.toBelow⟩

theorem lawArmed_any (x0 : Int) (hx0 : 0 ≤ x0) (hx1 : x0 ≤ 255) (l : List Ac) (hn : l.length ≤ 9223372036854775807) (hz : ∀ a ∈ l, acFine a) (ao : Option Addr) (cap : Nat) (l2 : List Ac) (hn2 : l2.length ≤ 9223372036854775807) (hz2 : ∀ a ∈ l2, acFine a) (ao2 : Option Addr) (cap2 : Nat) (af : Int) (haf : -9223372036854775808 ≤ af ∧ af ≤ 9223372036854775807) (x y : Int) (w : World) (hl : IsActs w ao l) (hl2 : IsActs w ao2 l2) :
    Calls Try.prog 8 #[.int .u8 x0, .slice ao l.length cap, .slice ao2 l2.length cap2, .int .i64 af, .int .i64 x, .int .i64 y] w fun e w' => e = .returned (.bool true) ∧ Below w.heap.size w w' := by
  cases h1 : okB l
  · exact lawArmed_skip x0 af x y l hn hz ao cap l2 hn2 hz2 ao2 cap2 (Or.inl h1) w hl hl2
  · cases h2 : okB l2
    · exact lawArmed_skip x0 af x y l hn hz ao cap l2 hn2 hz2 ao2 cap2 (Or.inr ⟨h1, h2⟩) w hl hl2
    · obtain ⟨n, hn3⟩ : ∃ n : Nat, 1 + x0 % 12 = n := ⟨(1 + x0 % 12).toNat, by omega⟩
      exact lawArmed_main x0 af x y haf.1 haf.2 hx0 hx1 n hn3 l hz ao cap h1 l2 hz2 ao2 cap2 h2 w hl hl2

end Go.Proofs.Ytenddmcepfkbaaa
