/- The statement on what is read: its walk. -/
import Derived.Test.YtenddmcepfkbaaaDskKeep
namespace Go.Proofs.Ytenddmcepfkbaaa
open Go.RowKit

set_option maxRecDepth 100000 in
set_option maxHeartbeats 4000000 in
theorem lawReads_skip (x0 : Int) (l : List Ac) (hn : l.length ≤ 9223372036854775807) (hz : ∀ a ∈ l, acFine a) (ao : Option Addr) (cap : Nat) (x : Ac) (hx : acFine x) (hbad : okB l = false ∨ okB l = true ∧ okB [x] = false) (w : World) (hl : IsActs w ao l) :
    Calls Try.prog 6 #[.int .u8 x0, .slice ao l.length cap, acV x] w fun e w' => e = .returned (.bool true) ∧ Below w.heap.size w w' := by
  unfold acV
  obtain ⟨L, HL⟩ : ∃ L, Hid (L = l.length) := ⟨_, Lib.hid rfl⟩
  obtain ⟨W0, HW0⟩ : ∃ W0, Hid (W0 = w.alloc (.cells #[.int .i64 x.kind, .int .i64 x.sector, .int .i64 x.byt, .string x.text, .bool x.odd, .int .i64 x.after] 34)) := ⟨_, Lib.hid rfl⟩
  have hb0 : Below w.heap.size w W0 := by rw [HW0.out]; exact (Below.refl _ _).alloc (Nat.le_refl _) _
  have HAc : Hid (IsActs W0 ao l) := Lib.hid (hl.grown hb0)
  have HX : Hid (IsAct W0 w.heap.size 0 x ∧ w.heap.size < W0.heap.size) := Lib.hid (by rw [HW0.out]; exact ⟨IsAct.new _ _ _, by rw [size_alloc]; omega⟩)
  have HK : Hid (∀ W, IsActs W ao l → Calls Try.prog 12 #[.slice ao L cap] W fun e w' => e = .returned (.bool (okB l)) ∧ W = w') := Lib.hid fun W h => by
    rw [HL.out]; exact ok_any l hn (fun a ha => (hz a ha).1) ao cap W h
  have HK2 : Hid (∀ W (ad : Option Addr), IsActs W ad [x] → Calls Try.prog 12 #[.slice ad 1 1] W fun e w' => e = .returned (.bool (okB [x])) ∧ W = w') := Lib.hid fun W ad h =>
    ok_any [x] (by simp) (fun a ha => by rw [List.mem_singleton.1 ha]; exact hx.1) ad 1 W h
  rw [← HL.out]
  clear hn hz hl hb0
  rcases hbad with h1 | ⟨h1, h2⟩
  · rw [h1] at HK
    clear h1
    go_enter Try.func6, Try.ntmps6
    go_wp2_with fail
    rw [← HW0.out]
    refine (head46_any _).mono ?_
    rintro e v1 ⟨rfl, hb⟩
    have HB := Lib.hid hb
    clear hb
    go_wp2_with fail
    refine (HK.out _ (HAc.out.grown HB.out)).mono ?_
    rintro e _ ⟨rfl, rfl⟩
    go_wp2
    go_ret
    exact ⟨rfl, box_below HW0.out HB.out⟩
  · rw [h1] at HK
    rw [h2] at HK2
    clear h1 h2
    go_enter Try.func6, Try.ntmps6
    go_wp2_with fail
    rw [← HW0.out]
    refine (head46_any _).mono ?_
    rintro e v1 ⟨rfl, hb⟩
    have HB := Lib.hid hb
    have hx1 := HX.out.1.below hb HX.out.2
    obtain ⟨x1, x2, x3, x4, x5, x6⟩ := hx1
    simp only [Nat.zero_add] at x2 x3 x4 x5 x6
    clear hb
    go_wp2_with fail
    refine (HK.out _ (HAc.out.grown HB.out)).mono ?_
    rintro e _ ⟨rfl, rfl⟩
    go_wp2_with fail
    refine (HK2.out _ _ (IsAct.one (IsAct.new _ x _) (by rw [size_alloc]; omega))).mono ?_
    rintro e _ ⟨rfl, rfl⟩
    go_wp2
    go_ret
    exact ⟨rfl, box_below HW0.out (below_alloc HB.out _)⟩

set_option maxRecDepth 100000 in
set_option maxHeartbeats 16000000 in
theorem lawReads_main (x0 : Int) (hx0 : 0 ≤ x0) (hx1 : x0 ≤ 255) (n : Nat) (hnx : 1 + x0 % 12 = (n : Int)) (l : List Ac) (hz : ∀ a ∈ l, acFine a) (ao : Option Addr) (cap : Nat) (k s y f : Int) (t : ByteArray) (odd : Bool) (hx : acFine ⟨k, s, y, t, odd, f⟩) (hk1 : okB l = true) (hk2 : okB [⟨k, s, y, t, odd, f⟩] = true) (w : World) (hl : IsActs w ao l) :
    Calls Try.prog 6 #[.int .u8 x0, .slice ao l.length cap, .agg #[.int .i64 k, .int .i64 s, .int .i64 y, .string t, .bool odd, .int .i64 f]] w fun e w' => e = .returned (.bool true) ∧ Below w.heap.size w w' := by
  have hn1 : 1 ≤ n := by omega
  have hn2 : n ≤ 12 := by omega
  have HN : Hid (1 ≤ n ∧ n ≤ 12) := Lib.hid ⟨hn1, hn2⟩
  obtain ⟨L, HL⟩ : ∃ L, Hid (L = l.length) := ⟨_, Lib.hid rfl⟩
  obtain ⟨W0, HW0⟩ : ∃ W0, Hid (W0 = w.alloc (.cells #[.int .i64 k, .int .i64 s, .int .i64 y, .string t, .bool odd, .int .i64 f] 34)) := ⟨_, Lib.hid rfl⟩
  have hb0 : Below w.heap.size w W0 := by rw [HW0.out]; exact (Below.refl _ _).alloc (Nat.le_refl _) _
  have HAc : Hid (IsActs W0 ao l) := Lib.hid (hl.grown hb0)
  have HX : Hid (IsAct W0 w.heap.size 0 ⟨k, s, y, t, odd, f⟩ ∧ w.heap.size < W0.heap.size) := Lib.hid (by rw [HW0.out]; exact ⟨IsAct.new _ ⟨k, s, y, t, odd, f⟩ _, by rw [size_alloc]; omega⟩)
  have HK : Hid (∀ W, IsActs W ao l → Calls Try.prog 12 #[.slice ao L cap] W fun e w' => e = .returned (.bool true) ∧ W = w') := Lib.hid fun W h => by
    have h1 := ok_any l (by have := (okB_iff.1 hk1).2; omega) (fun a ha => (hz a ha).1) ao cap W h
    rw [hk1] at h1
    rw [HL.out]; exact h1
  have HK2 : Hid (∀ W (ad : Option Addr), IsActs W ad [⟨k, s, y, t, odd, f⟩] → Calls Try.prog 12 #[.slice ad 1 1] W fun e w' => e = .returned (.bool true) ∧ W = w') := Lib.hid fun W ad h => by
    have h1 := ok_any [⟨k, s, y, t, odd, f⟩] (by simp) (fun a ha => by rw [List.mem_singleton.1 ha]; exact hx.1) ad 1 W h
    rw [hk2] at h1
    exact h1
  have HSz : Hid (∀ W, Calls Try.prog 14 #[.int .u8 x0] W fun e w' => e = .returned (.int .i64 (n : Int)) ∧ W = w') := Lib.hid fun W => by
    have := size_any x0 hx0 hx1 W
    rw [hnx] at this
    exact this
  have Hok := Lib.hid (okB_iff.1 hk1)
  have HZ := Lib.hid hz
  have Htx := Lib.hid (ok_one hk2)
  obtain ⟨T, HT⟩ : ∃ T, Hid (T = textV odd t) := ⟨_, Lib.hid rfl⟩
  have HXt : Hid (∀ W, Calls Try.prog 24 #[.agg #[.int .i64 k, .int .i64 s, .int .i64 y, .string t, .bool odd, .int .i64 f]] W fun e w' => e = .returned (.string T) ∧ Below W.heap.size W w') := Lib.hid fun W => by
    rw [HT.out]; exact text_any ⟨k, s, y, t, odd, f⟩ Htx.out W
  have HTs : Hid (T.size ≤ 9223372036854775807) := Lib.hid (by rw [HT.out]; exact textV_size odd t Htx.out)
  have hL60 : (L : Int) ≤ 60 := by have := Hok.out.2; have := HL.out; omega
  have hn12 : (n : Int) ≤ 12 := by omega
  have hn11 : (1 : Int) ≤ n := by omega
  rw [← HL.out]
  clear hz hl hb0 hx hk1 hk2 hx0 hx1 hnx hn1 hn2
  go_enter Try.func6, Try.ntmps6
  go_wp2_with fail
  rw [← HW0.out]
  refine (head46_any _).mono ?_
  rintro e v1 ⟨rfl, hb⟩
  have HB := Lib.hid hb
  obtain ⟨x1, x2, x3, x4, x5, x6⟩ := HX.out.1.below hb HX.out.2
  simp only [Nat.zero_add] at x2 x3 x4 x5 x6
  clear hb
  go_wp2_with fail
  refine (HK.out _ (HAc.out.grown HB.out)).mono ?_
  rintro e _ ⟨rfl, rfl⟩
  go_wp2_with fail
  refine (HK2.out _ _ (IsAct.one (IsAct.new _ ⟨k, s, y, t, odd, f⟩ _) (by rw [size_alloc]; omega))).mono ?_
  rintro e _ ⟨rfl, rfl⟩
  clear x1 x2 x3 x4 x5 x6
  go_wp2_with fail
  refine (HSz.out _).mono ?_
  rintro e _ ⟨rfl, rfl⟩
  go_wp2_with fail
  refine (new_any n HN.out.1 (by have := HN.out.2; omega) _).mono ?_
  rintro e v2 ⟨b, rfl, hb, hbn, bs, hbsn, hi⟩
  have HB2 := Lib.hid (below_step (below_alloc HB.out _) hb)
  have hsz1 : W0.heap.size ≤ (v1.alloc (.cells #[.int .i64 k, .int .i64 s, .int .i64 y, .string t, .bool odd, .int .i64 f] 34)).heap.size := by rw [size_alloc]; have := HB.out.size; omega
  have HS0 : Hid (St n W0 (fun _ => False) v2 b bs (Dsk.zero n)) := Lib.hid (St.new HB2.out hi (fun j hj => by
    rcases hj with rfl | rfl | hj
    · exact Nat.le_trans hsz1 hbn
    · exact Nat.le_trans hsz1 hbsn
    · simp [Value.ownBlock] at hj))
  clear hb hbn hbsn hi hsz1
  go_wp2
  go_loopw [10] (fun i wr => ∃ j : Nat, j ≤ L ∧ i = .int .i64 j ∧ Hid (St n W0 (fun _ => False) wr b bs (runD n (Dsk.zero n) (l.take j)))) (fun i _ => L - (intOf i).toNat)
  case atStart => exact ⟨0, by omega, rfl, HS0⟩
  case round =>
    obtain ⟨j, hj, rfl, HS⟩ := hrel
    by_cases hlt : j < L
    · have hjl : j < l.length := by rw [← HL.out]; exact hlt
      have hlt' : (j : Int) < L := by omega
      obtain ⟨bk, off, rfl, hbk, hact⟩ := HAc.out.at hjl
      obtain ⟨a, Ha⟩ : ∃ a, Hid (a = l[j]) := ⟨_, Lib.hid rfl⟩
      rw [← Ha.out] at hact
      obtain ⟨x1, x2, x3, x4, x5, x6⟩ := hact.below HS.out.toBelow hbk
      have HDo := Lib.hid (HS.out.act a (by rw [Ha.out]; exact Hok.out.1 _ (List.getElem_mem _)) (run_fits (fun c hc => HZ.out c (List.mem_of_mem_take hc)) (zero_fits n)) (by rw [List.length_take]; omega))
      clear hact
      go_wp2_with fail
      refine HDo.out.mono ?_
      rintro e wn ⟨rfl, hs⟩
      have HSn := Lib.hid hs
      clear hs x1 x2 x3 x4 x5 x6
      go_wp2
      go_roundw
      case rel => exact ⟨j + 1, by omega, by go_num, Lib.hid (by rw [runD_take hjl, ← Ha.out]; exact HSn.out)⟩
      case measure => simp [intOf]; omega
    · obtain rfl : L = j := by omega
      obtain ⟨D1, HD1⟩ : ∃ D1, Hid (D1 = runD n (Dsk.zero n) (l.take L)) := ⟨_, Lib.hid rfl⟩
      have HF1 : Hid (fits D1 60) := Lib.hid (by
        rw [HD1.out]
        exact (run_fits (fun c hc => HZ.out c (List.mem_of_mem_take hc)) (zero_fits n)).mono (by rw [List.length_take]; omega))
      rw [← HD1.out] at HS
      obtain ⟨D2, HD2⟩ : ∃ D2, Hid (D2 = Dsk.startD D1) := ⟨_, Lib.hid rfl⟩
      have HF2 : Hid (fits D2 60) := Lib.hid (by rw [HD2.out]; exact start_fits HF1.out)
      have HC2 : Hid (Calm D2) := Lib.hid (by rw [HD2.out]; exact start_calm _)
      go_wp2_with fail
      refine (HS.out.run (D' := D2) (fun pv h => by rw [HD2.out]; exact start_any h)).mono ?_
      rintro e wn ⟨rfl, hs⟩
      replace HS := Lib.hid hs
      clear hs
      have HSame : Hid (∀ (W : World) (ss tt : List ByteArray) (g g' c c' : Nat), ss.length = n → tt.length = n → SRow W g ss → SRow W g' tt → Calls Try.prog 27 #[.slice (some ⟨g, 0, none⟩) n c, .slice (some ⟨g', 0, none⟩) n c'] W fun e w' => e = .returned (.bool (decide (ss = tt))) ∧ Below W.heap.size W w') := Lib.hid fun W ss tt g g' c c' h1 h2 h3 h4 => same_rows h1 h2 (by omega) h3 h4
      have HCt := Lib.hid (HS.out.contents HC2.out.1)
      obtain ⟨pv4, hi4, hf4⟩ := HS.out.2
      have HI4 := Lib.hid hi4
      have HF4 : Hid (∀ j, foot b bs pv4 j → W0.heap.size ≤ j) := Lib.hid fun j hj => (hf4 j hj).elim (fun h => h.elim) id
      have HBw := Lib.hid HS.out.toBelow
      clear hi4 hf4
      go_wp2_with fail
      refine HCt.out.mono ?_
      rintro e wa ⟨g1, cap1, rfl, hb, hg1, hr1⟩
      have HBa := Lib.hid (below_step HBw.out hb)
      have HG1 : Hid (¬ foot b bs pv4 g1) := Lib.hid fun hk => by have := foot_lt HI4.out hk; omega
      have HR1 := Lib.hid hr1
      have HSa := Lib.hid ((HI4.out.grown hb).base)
      have HGl : Hid (W0.heap.size ≤ g1) := Lib.hid (Nat.le_trans HBw.out.size hg1)
      clear hb hg1 hr1
      obtain ⟨x1, x2, x3, x4, x5, x6⟩ := HX.out.1.below HBa.out HX.out.2
      simp only [Nat.zero_add] at x2 x3 x4 x5 x6
      have hlt0 : w.heap.size < wa.heap.size := Nat.lt_of_lt_of_le HX.out.2 HBa.out.size
      go_wp2_with fail
      have p1 : ∀ X : Grown wa, X.w.cell? ⟨w.heap.size, 0, none⟩ = some (.int .i64 k) := fun X => by rw [X.cell hlt0, x1]
      have p2 : ∀ X : Grown wa, X.w.cell? ⟨w.heap.size, 1, none⟩ = some (.int .i64 s) := fun X => by rw [X.cell hlt0, x2]
      have p3 : ∀ X : Grown wa, X.w.cell? ⟨w.heap.size, 2, none⟩ = some (.int .i64 y) := fun X => by rw [X.cell hlt0, x3]
      have p4 : ∀ X : Grown wa, X.w.cell? ⟨w.heap.size, 3, none⟩ = some (.string t) := fun X => by rw [X.cell hlt0, x4]
      have p5 : ∀ X : Grown wa, X.w.cell? ⟨w.heap.size, 4, none⟩ = some (.bool odd) := fun X => by rw [X.cell hlt0, x5]
      have p6 : ∀ X : Grown wa, X.w.cell? ⟨w.heap.size, 5, none⟩ = some (.int .i64 f) := fun X => by rw [X.cell hlt0, x6]
      clear x1 x2 x3 x4 x5 x6
      refine wp_region_grown_tail 5 (by kernel_rfl) (by kernel_rfl) ?_
      simp only [List.take_succ_cons, List.take_zero, List.drop_succ_cons, List.drop_zero]
      repeat (go_big_quiet_step ((go_at_call 24; exact grown_of (HXt.out _))))
      refine wpQuiet_nil ?_
      intro X
      have HSX := Lib.hid (HSa.out.below X.below)
      clear p1 p2 p3 p4 p5 p6
      cases hv : (Dsk.has n s && (T.size == 64))
      · have hE := calm_write (n := n) HC2.out s T
        rw [hv] at hE
        simp only [Bool.false_eq_true, if_false] at hE
        have HE := Lib.hid hE
        have hbad : s < 0 ∨ (¬ s < 0 ∧ (n : Int) ≤ s) ∨ (¬ s < 0 ∧ ¬ (n : Int) ≤ s ∧ ((T.size : Int) != 64) = true) := by
          rcases Bool.and_eq_false_iff.1 hv with h | h
          · by_cases h1 : s < 0
            · exact Or.inl h1
            · by_cases h2 : (n : Int) ≤ s
              · exact Or.inr (Or.inl ⟨h1, h2⟩)
              · rw [Dsk.has_iff.2 ⟨by omega, by omega⟩] at h; cases h
          · by_cases h1 : s < 0
            · exact Or.inl h1
            · by_cases h2 : (n : Int) ≤ s
              · exact Or.inr (Or.inl ⟨h1, h2⟩)
              · exact Or.inr (Or.inr ⟨h1, h2, by simp at h ⊢; omega⟩)
        clear hE hv
        go_wp2_with fail
        refine (HSX.out.run (D' := D2) (fun pv h => by have := write_any h s T HTs.out (by have := HF2.out.2; omega) HF2.out.1; rw [HE.out.2.2.1, HE.out.2.2.2] at this; exact this)).mono ?_
        rintro e wb ⟨rfl, hs⟩
        have HSb := Lib.hid hs
        clear hs
        go_wp2_with fail
        refine (HSb.out.contents HC2.out.1).mono ?_
        rintro e wc ⟨g2, cap2, rfl, hb, hg2, hr2⟩
        have HSc := Lib.hid (HSb.out.below hb)
        have HR2 := Lib.hid hr2
        clear hb hg2 hr2
        go_wp2_with fail
        refine (HSc.out.contents HC2.out.1).mono ?_
        rintro e wd ⟨g3, cap3, rfl, hb, hg3, hr3⟩
        have HSd := Lib.hid (HSc.out.below hb)
        have HR3 := Lib.hid hr3
        replace HR2 := Lib.hid (HR2.out.below hb)
        clear hb hg3 hr3
        go_wp2_with fail
        refine (HSame.out _ _ _ _ _ _ _ (seenL_len _ _) (seenL_len _ _) HR2.out HR3.out).mono ?_
        rintro e we ⟨rfl, hb⟩
        rw [decide_eq_true rfl]
        have HSe := Lib.hid (HSd.out.below hb)
        replace HR2 := Lib.hid (HR2.out.below hb)
        have HR1e : Hid (SRow we g1 (seenL D2 n)) := Lib.hid (HR1.out.kept HSe.out.1 HG1.out)
        clear hb
        go_wp2_with fail
        refine (HSame.out _ _ _ _ _ _ _ (seenL_len _ _) (seenL_len _ _) HR1e.out HR2.out).mono ?_
        rintro e wf ⟨rfl, hb⟩
        rw [decide_eq_true rfl]
        have HSf := Lib.hid (HSe.out.below hb)
        have HB9 := Lib.hid (HSf.out.deep HBa.out HF4.out)
        obtain ⟨x1, x2, x3, x4, x5, x6⟩ := HX.out.1.below HB9.out HX.out.2
        simp only [Nat.zero_add] at x2 x3 x4 x5 x6
        clear hb
        rcases hbad with h1 | ⟨h1, h2⟩ | ⟨h1, h2, h3⟩
        · go_wp2
          go_ret
          exact ⟨rfl, box_below HW0.out HB9.out⟩
        · go_wp2
          go_ret
          exact ⟨rfl, box_below HW0.out HB9.out⟩
        · go_wp2_with fail
          refine (HXt.out _).mono ?_
          rintro e wg ⟨rfl, hb⟩
          have HB10 := Lib.hid (below_step HB9.out hb)
          clear hb
          go_wp2
          go_ret
          exact ⟨rfl, box_below HW0.out HB10.out⟩
      · have hE := calm_write (n := n) HC2.out s T
        rw [hv] at hE
        simp only [if_true] at hE
        have HE := Lib.hid hE
        rw [Bool.and_eq_true] at hv
        have hsn := Dsk.has_iff.1 hv.1
        obtain ⟨sN, rfl⟩ : ∃ q : Nat, s = q := ⟨s.toNat, by omega⟩
        have hs1 : ¬ (sN : Int) < 0 := by omega
        have hs2 : ¬ (n : Int) ≤ (sN : Int) := by omega
        have hs3 : (sN : Int) < n := hsn.2
        have hs4 : sN < n := by omega
        obtain ⟨D3, HD3⟩ : ∃ D3, Hid (D3 = Dsk.added D2 sN T) := ⟨_, Lib.hid rfl⟩
        have HC3 : Hid (Calm D3) := Lib.hid (by rw [HD3.out]; exact HC2.out)
        have HF3 : Hid (fits D3 61) := Lib.hid (by
          have := write_fits (n := n) HF2.out (sN : Int) T
          rw [HE.out.2.2.1] at this
          rw [HD3.out]; exact this)
        clear hE hv hsn
        go_wp2_with fail
        refine (HSX.out.run (D' := D3) (fun pv h => by have := write_any h sN T HTs.out (by have := HF2.out.2; omega) HF2.out.1; rw [HE.out.2.2.1, HE.out.2.2.2, ← HD3.out] at this; exact this)).mono ?_
        rintro e wb ⟨rfl, hs⟩
        have HSb := Lib.hid hs
        clear hs
        go_wp2_with fail
        refine (HSb.out.contents HC3.out.1).mono ?_
        rintro e wc ⟨g2, cap2, rfl, hb, hg2, hr2⟩
        have HSc := Lib.hid (HSb.out.below hb)
        have HR2 := Lib.hid hr2
        have HG2 : Hid (g1 ≠ g2) := Lib.hid fun e => by
          have h1 : g1 < wa.heap.size := HR1.out.1
          have h2 := HSb.out.1.size
          omega
        clear hb hg2 hr2
        go_wp2_with fail
        refine (HSc.out.contents HC3.out.1).mono ?_
        rintro e wd ⟨g3, cap3, rfl, hb, hg3, hr3⟩
        have HSd := Lib.hid (HSc.out.below hb)
        have HR3 := Lib.hid hr3
        replace HR2 := Lib.hid (HR2.out.below hb)
        clear hb hg3 hr3
        go_wp2_with fail
        refine (HSame.out _ _ _ _ _ _ _ (seenL_len _ _) (seenL_len _ _) HR2.out HR3.out).mono ?_
        rintro e we ⟨rfl, hb⟩
        rw [decide_eq_true rfl]
        have HSe := Lib.hid (HSd.out.below hb)
        replace HR2 := Lib.hid (HR2.out.below hb)
        have HR1e : Hid (SRow we g1 (seenL D2 n)) := Lib.hid (HR1.out.kept HSe.out.1 HG1.out)
        have HBe := Lib.hid (HSe.out.deep HBa.out HF4.out)
        obtain ⟨x1, x2, x3, x4, x5, x6⟩ := HX.out.1.below HBe.out HX.out.2
        simp only [Nat.zero_add] at x2 x3 x4 x5 x6
        have hlt1 : w.heap.size < we.heap.size := Nat.lt_of_lt_of_le HX.out.2 HBe.out.size
        clear hb
        go_wp2_with fail
        have p1 : ∀ X : Grown we, X.w.cell? ⟨w.heap.size, 0, none⟩ = some (.int .i64 k) := fun X => by rw [X.cell hlt1, x1]
        have p2 : ∀ X : Grown we, X.w.cell? ⟨w.heap.size, 1, none⟩ = some (.int .i64 (sN : Int)) := fun X => by rw [X.cell hlt1, x2]
        have p3 : ∀ X : Grown we, X.w.cell? ⟨w.heap.size, 2, none⟩ = some (.int .i64 y) := fun X => by rw [X.cell hlt1, x3]
        have p4 : ∀ X : Grown we, X.w.cell? ⟨w.heap.size, 3, none⟩ = some (.string t) := fun X => by rw [X.cell hlt1, x4]
        have p5 : ∀ X : Grown we, X.w.cell? ⟨w.heap.size, 4, none⟩ = some (.bool odd) := fun X => by rw [X.cell hlt1, x5]
        have p6 : ∀ X : Grown we, X.w.cell? ⟨w.heap.size, 5, none⟩ = some (.int .i64 f) := fun X => by rw [X.cell hlt1, x6]
        clear x1 x2 x3 x4 x5 x6
        refine wp_region_grown_tail 6 (by kernel_rfl) (by kernel_rfl) ?_
        simp only [List.take_succ_cons, List.take_zero, List.drop_succ_cons, List.drop_zero]
        repeat (go_big_quiet_step ((go_at_call 24; exact grown_of (HXt.out _))))
        refine wpQuiet_nil ?_
        intro Z
        have hsl : sN < (seenL D2 n).length := by rw [seenL_len]; exact hs4
        have HR1z := Lib.hid (HR1e.out.below Z.below)
        have HR2z := Lib.hid (HR2.out.below Z.below)
        have HSz := Lib.hid (HSe.out.below Z.below)
        have HBz := Lib.hid (below_step HBe.out Z.below)
        obtain ⟨q1, q2⟩ := HR1z.out.2 sN hsl
        obtain ⟨old, Hold⟩ : ∃ q, Hid (q = (seenL D2 n)[sN]) := ⟨_, Lib.hid rfl⟩
        rw [← Hold.out] at q1
        clear p1 p2 p3 p4 p5 p6
        obtain ⟨Wz, HWz⟩ : ∃ Wz, Hid (Wz = Z.w) := ⟨_, Lib.hid rfl⟩
        rw [← HWz.out] at HR1z HR2z HSz HBz q1 q2 ⊢
        have HO6 : Hid (Only (fun q => q = g1) Wz (Wz.setCell ⟨g1, sN, none⟩ (.string T))) := Lib.hid ((Only.refl (fun q => q = g1) Wz).setCell (p := ⟨g1, sN, none⟩) (Or.inl rfl) _)
        have HR1f : Hid (SRow (Wz.setCell ⟨g1, sN, none⟩ (.string T)) g1 (seenL D3 n)) := Lib.hid (by
          have h1 := HR1z.out.set hsl T
          rw [seenL_added, ← HD3.out] at h1
          exact h1)
        have HR2f : Hid (SRow (Wz.setCell ⟨g1, sN, none⟩ (.string T)) g2 (seenL D3 n)) := Lib.hid (HR2z.out.kept HO6.out (fun e => HG2.out e.symm))
        obtain ⟨pv6, hi6, hf6⟩ := HSz.out.2
        have HSf : Hid (St n (Wz.setCell ⟨g1, sN, none⟩ (.string T)) (foot b bs pv6) (Wz.setCell ⟨g1, sN, none⟩ (.string T)) b bs D3) := Lib.hid ((hi6.far HO6.out fun q hq e => by
          subst e
          rcases hf6 q hq with h | h
          · exact HG1.out h
          · have := HR1.out.1; omega).base)
        have HF6 : Hid (∀ j, foot b bs pv6 j → W0.heap.size ≤ j) := Lib.hid fun j hj => by
          rcases hf6 j hj with h | h
          · exact HF4.out j h
          · have := HBa.out.size; omega
        have HBf : Hid (Below W0.heap.size W0 (Wz.setCell ⟨g1, sN, none⟩ (.string T))) := Lib.hid (HBz.out.setCell (p := ⟨g1, sN, none⟩) (by show W0.heap.size ≤ g1; exact HGl.out) _)
        clear hi6 hf6
        go_wp2_with fail
        obtain ⟨Wf, HWf⟩ : ∃ Wf, Hid (Wf = Wz.setCell ⟨g1, sN, none⟩ (.string T)) := ⟨_, Lib.hid rfl⟩
        rw [← HWf.out] at HR1f HR2f HSf HBf ⊢
        clear q1 q2
        refine (HSame.out _ _ _ _ _ _ _ (seenL_len _ _) (seenL_len _ _) HR1f.out HR2f.out).mono ?_
        rintro e wg ⟨rfl, hb⟩
        rw [decide_eq_true rfl]
        replace HSf := Lib.hid (HSf.out.below hb)
        clear hb
        obtain ⟨D4, HD4⟩ : ∃ D4, Hid (D4 = Dsk.fail D3 0 0) := ⟨_, Lib.hid rfl⟩
        have HO4 : Hid (D4.off = true) := Lib.hid (by rw [HD4.out]; unfold Dsk.fail; rw [HC3.out.1]; rfl)
        go_wp2_with fail
        refine (HSf.out.run (D' := D4) (fun pv h => by rw [HD4.out]; exact fail_any h 0 0)).mono ?_
        rintro e wg ⟨rfl, hs⟩
        replace HSf := Lib.hid hs
        clear hs
        go_wp2_with fail
        refine (fill_any ⟨#[97]⟩ (by decide) _).mono ?_
        rintro e wg ⟨rfl, hb⟩
        replace HSf := Lib.hid (HSf.out.below hb)
        clear hb
        go_wp2_with fail
        refine (HSf.out.still (fun pv h => write_off h HO4.out 0 _)).mono ?_
        rintro e wg ⟨rfl, hs⟩
        replace HSf := Lib.hid hs
        clear hs
        go_wp2_with fail
        refine (HSf.out.still (fun pv h => read_off h HO4.out 0)).mono ?_
        rintro e wg ⟨rfl, hs⟩
        have HB9 := Lib.hid (hs.deep HBf.out HF6.out)
        clear hs
        go_wp2
        go_ret
        exact ⟨rfl, box_below HW0.out HB9.out⟩

theorem lawReads_any (x0 : Int) (hx0 : 0 ≤ x0) (hx1 : x0 ≤ 255) (l : List Ac) (hn : l.length ≤ 9223372036854775807) (hz : ∀ a ∈ l, acFine a) (ao : Option Addr) (cap : Nat) (x : Ac) (hx : acFine x) (w : World) (hl : IsActs w ao l) :
    Calls Try.prog 6 #[.int .u8 x0, .slice ao l.length cap, acV x] w fun e w' => e = .returned (.bool true) ∧ Below w.heap.size w w' := by
  cases h1 : okB l
  · exact lawReads_skip x0 l hn hz ao cap x hx (Or.inl h1) w hl
  · cases h2 : okB [x]
    · exact lawReads_skip x0 l hn hz ao cap x hx (Or.inr ⟨h1, h2⟩) w hl
    · obtain ⟨k, s, y, t, odd, f⟩ := x
      obtain ⟨n, hn2⟩ : ∃ n : Nat, 1 + x0 % 12 = n := ⟨(1 + x0 % 12).toNat, by omega⟩
      exact lawReads_main x0 hx0 hx1 n hn2 l hz ao cap k s y f t odd hx h1 h2 w hl

end Go.Proofs.Ytenddmcepfkbaaa
