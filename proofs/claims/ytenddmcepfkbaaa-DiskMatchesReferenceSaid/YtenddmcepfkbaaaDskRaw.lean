/- The statement on stable contents: its walk. -/
import Derived.Test.YtenddmcepfkbaaaDskRun
namespace Go.Proofs.Ytenddmcepfkbaaa
open Go.RowKit

theorem box_below {w W0 W : World} {o : Obj} (h0 : W0 = w.alloc o) (h : Below W0.heap.size W0 W) : Below w.heap.size w W := by
  subst h0
  exact ((Below.refl _ _).alloc (Nat.le_refl _) _).trans (h.mono (by rw [size_alloc]; omega))

set_option maxRecDepth 100000 in
set_option maxHeartbeats 4000000 in
theorem lawRaw_skip (x0 : Int) (l : List Ac) (hn : l.length ≤ 9223372036854775807) (hz : ∀ a ∈ l, acFine a) (ao : Option Addr) (cap : Nat) (x : Ac) (hx : acFine x) (hbad : okB l = false ∨ okB l = true ∧ okB [x] = false) (w : World) (hl : IsActs w ao l) :
    Calls Try.prog 10 #[.int .u8 x0, .slice ao l.length cap, acV x] w fun e w' => e = .returned (.bool true) ∧ Below w.heap.size w w' := by
  unfold acV
  obtain ⟨L, HL⟩ : ∃ L, Hid (L = l.length) := ⟨_, Lib.hid rfl⟩
  obtain ⟨W0, HW0⟩ : ∃ W0, Hid (W0 = w.alloc (.cells #[.int .i64 x.kind, .int .i64 x.sector, .int .i64 x.byt, .string x.text, .bool x.odd, .int .i64 x.after] 34)) := ⟨_, Lib.hid rfl⟩
  have hb0 : Below w.heap.size w W0 := by rw [HW0.out]; exact (Below.refl _ _).alloc (Nat.le_refl _) _
  have HAc : Hid (IsActs W0 ao l) := Lib.hid (hl.grown hb0)
  have HX : Hid (IsAct W0 w.heap.size 0 x ∧ w.heap.size < W0.heap.size) := Lib.hid (by rw [HW0.out]; exact ⟨IsAct.new _ _ _, by rw [size_alloc]; omega⟩)
  have HK : Hid (∀ W, IsActs W ao l → Calls Try.prog 12 #[.slice ao L cap] W fun e w' => e = .returned (.bool (okB l)) ∧ W = w') := Lib.hid fun W h => by
    rw [HL.out]; exact ok_any l hn (fun a ha => (hz a ha).1) ao cap W h
  have HK2 : Hid (∀ W (ad : Option Addr), IsActs W ad [x] → Calls Try.prog 12 #[.slice ad 1 1] W fun e w' => e = .returned (.bool (okB [x])) ∧ W = w') := Lib.hid fun W ad h =>
    ok_any [x] (by simp) (fun a ha => by rw [List.mem_singleton.1 ha]; exact hx.1) ad 1 W h
  rw [← HL.out]
  clear hn hz hl hb0
  rcases hbad with h1 | ⟨h1, h2⟩
  · rw [h1] at HK
    clear h1
    go_enter Try.func10, Try.ntmps10
    go_wp2_with fail
    rw [← HW0.out]
    refine (head46_any _).mono ?_
    rintro e v1 ⟨rfl, hb⟩
    have HB := Lib.hid hb
    clear hb
    go_wp2_with fail
    refine (HK.out _ (HAc.out.grown HB.out)).mono ?_
    rintro e _ ⟨rfl, rfl⟩
    go_wp2
    go_ret
    exact ⟨rfl, box_below HW0.out HB.out⟩
  · rw [h1] at HK
    rw [h2] at HK2
    clear h1 h2
    go_enter Try.func10, Try.ntmps10
    go_wp2_with fail
    rw [← HW0.out]
    refine (head46_any _).mono ?_
    rintro e v1 ⟨rfl, hb⟩
    have HB := Lib.hid hb
    have hx1 := HX.out.1.below hb HX.out.2
    obtain ⟨x1, x2, x3, x4, x5, x6⟩ := hx1
    simp only [Nat.zero_add] at x2 x3 x4 x5 x6
    clear hb
    go_wp2_with fail
    refine (HK.out _ (HAc.out.grown HB.out)).mono ?_
    rintro e _ ⟨rfl, rfl⟩
    go_wp2_with fail
    refine (HK2.out _ _ (IsAct.one (IsAct.new _ x _) (by rw [size_alloc]; omega))).mono ?_
    rintro e _ ⟨rfl, rfl⟩
    go_wp2
    go_ret
    exact ⟨rfl, box_below HW0.out (below_alloc HB.out _)⟩

theorem ok_one {x : Ac} (h : okB [x] = true) : x.text.size ≤ 100 := (okB_iff.1 h).1 x (List.mem_singleton.2 rfl)

set_option maxRecDepth 100000 in
set_option maxHeartbeats 16000000 in
theorem lawRaw_main (x0 : Int) (hx0 : 0 ≤ x0) (hx1 : x0 ≤ 255) (n : Nat) (hnx : 1 + x0 % 12 = (n : Int)) (l : List Ac) (hz : ∀ a ∈ l, acFine a) (ao : Option Addr) (cap : Nat) (k s y f : Int) (t : ByteArray) (odd : Bool) (hx : acFine ⟨k, s, y, t, odd, f⟩) (hk1 : okB l = true) (hk2 : okB [⟨k, s, y, t, odd, f⟩] = true) (w : World) (hl : IsActs w ao l) :
    Calls Try.prog 10 #[.int .u8 x0, .slice ao l.length cap, .agg #[.int .i64 k, .int .i64 s, .int .i64 y, .string t, .bool odd, .int .i64 f]] w fun e w' => e = .returned (.bool true) ∧ Below w.heap.size w w' := by
  have hn1 : 1 ≤ n := by omega
  have hn2 : n ≤ 12 := by omega
  have HN : Hid (1 ≤ n ∧ n ≤ 12) := Lib.hid ⟨hn1, hn2⟩
  obtain ⟨L, HL⟩ : ∃ L, Hid (L = l.length) := ⟨_, Lib.hid rfl⟩
  obtain ⟨W0, HW0⟩ : ∃ W0, Hid (W0 = w.alloc (.cells #[.int .i64 k, .int .i64 s, .int .i64 y, .string t, .bool odd, .int .i64 f] 34)) := ⟨_, Lib.hid rfl⟩
  have hb0 : Below w.heap.size w W0 := by rw [HW0.out]; exact (Below.refl _ _).alloc (Nat.le_refl _) _
  have HAc : Hid (IsActs W0 ao l) := Lib.hid (hl.grown hb0)
  have HX : Hid (IsAct W0 w.heap.size 0 ⟨k, s, y, t, odd, f⟩ ∧ w.heap.size < W0.heap.size) := Lib.hid (by rw [HW0.out]; exact ⟨IsAct.new _ ⟨k, s, y, t, odd, f⟩ _, by rw [size_alloc]; omega⟩)
  have HK : Hid (∀ W, IsActs W ao l → Calls Try.prog 12 #[.slice ao L cap] W fun e w' => e = .returned (.bool true) ∧ W = w') := Lib.hid fun W h => by
    have h1 := ok_any l (by have := (okB_iff.1 hk1).2; omega) (fun a ha => (hz a ha).1) ao cap W h
    rw [hk1] at h1
    rw [HL.out]; exact h1
  have HK2 : Hid (∀ W (ad : Option Addr), IsActs W ad [⟨k, s, y, t, odd, f⟩] → Calls Try.prog 12 #[.slice ad 1 1] W fun e w' => e = .returned (.bool true) ∧ W = w') := Lib.hid fun W ad h => by
    have h1 := ok_any [⟨k, s, y, t, odd, f⟩] (by simp) (fun a ha => by rw [List.mem_singleton.1 ha]; exact hx.1) ad 1 W h
    rw [hk2] at h1
    exact h1
  have HSz : Hid (∀ W, Calls Try.prog 14 #[.int .u8 x0] W fun e w' => e = .returned (.int .i64 (n : Int)) ∧ W = w') := Lib.hid fun W => by
    have := size_any x0 hx0 hx1 W
    rw [hnx] at this
    exact this
  have Hok := Lib.hid (okB_iff.1 hk1)
  have HZ := Lib.hid hz
  have Htx := Lib.hid (ok_one hk2)
  obtain ⟨T, HT⟩ : ∃ T, Hid (T = textV odd t) := ⟨_, Lib.hid rfl⟩
  have HXt : Hid (∀ W, Calls Try.prog 24 #[.agg #[.int .i64 k, .int .i64 s, .int .i64 y, .string t, .bool odd, .int .i64 f]] W fun e w' => e = .returned (.string T) ∧ Below W.heap.size W w') := Lib.hid fun W => by
    rw [HT.out]; exact text_any ⟨k, s, y, t, odd, f⟩ Htx.out W
  have HTs : Hid (T.size ≤ 9223372036854775807) := Lib.hid (by rw [HT.out]; exact textV_size odd t Htx.out)
  have hL60 : (L : Int) ≤ 60 := by have := Hok.out.2; have := HL.out; omega
  have hn12 : (n : Int) ≤ 12 := by omega
  have hn11 : (1 : Int) ≤ n := by omega
  rw [← HL.out]
  clear hz hl hb0 hx hk1 hk2 hx0 hx1 hnx hn1 hn2
  go_enter Try.func10, Try.ntmps10
  go_wp2_with fail
  rw [← HW0.out]
  refine (head46_any _).mono ?_
  rintro e v1 ⟨rfl, hb⟩
  have HB := Lib.hid hb
  obtain ⟨x1, x2, x3, x4, x5, x6⟩ := HX.out.1.below hb HX.out.2
  simp only [Nat.zero_add] at x2 x3 x4 x5 x6
  clear hb
  go_wp2_with fail
  refine (HK.out _ (HAc.out.grown HB.out)).mono ?_
  rintro e _ ⟨rfl, rfl⟩
  go_wp2_with fail
  refine (HK2.out _ _ (IsAct.one (IsAct.new _ ⟨k, s, y, t, odd, f⟩ _) (by rw [size_alloc]; omega))).mono ?_
  rintro e _ ⟨rfl, rfl⟩
  clear x1 x2 x3 x4 x5 x6
  go_wp2_with fail
  refine (HSz.out _).mono ?_
  rintro e _ ⟨rfl, rfl⟩
  go_wp2_with fail
  refine (new_any n HN.out.1 (by have := HN.out.2; omega) _).mono ?_
  rintro e v2 ⟨b, rfl, hb, hbn, bs, hbsn, hi⟩
  have HB2 := Lib.hid (below_step (below_alloc HB.out _) hb)
  have hsz1 : W0.heap.size ≤ (v1.alloc (.cells #[.int .i64 k, .int .i64 s, .int .i64 y, .string t, .bool odd, .int .i64 f] 34)).heap.size := by rw [size_alloc]; have := HB.out.size; omega
  have HS0 : Hid (St n W0 (fun _ => False) v2 b bs (Dsk.zero n)) := Lib.hid (St.new HB2.out hi (fun j hj => by
    rcases hj with rfl | rfl | hj
    · exact Nat.le_trans hsz1 hbn
    · exact Nat.le_trans hsz1 hbsn
    · simp [Value.ownBlock] at hj))
  clear hb hbn hbsn hi hsz1
  go_wp2
  go_loopw [10] (fun i wr => ∃ j : Nat, j ≤ L ∧ i = .int .i64 j ∧ Hid (St n W0 (fun _ => False) wr b bs (runD n (Dsk.zero n) (l.take j)))) (fun i _ => L - (intOf i).toNat)
  case atStart => exact ⟨0, by omega, rfl, HS0⟩
  case round =>
    obtain ⟨j, hj, rfl, HS⟩ := hrel
    by_cases hlt : j < L
    · have hjl : j < l.length := by rw [← HL.out]; exact hlt
      have hlt' : (j : Int) < L := by omega
      obtain ⟨bk, off, rfl, hbk, hact⟩ := HAc.out.at hjl
      obtain ⟨a, Ha⟩ : ∃ a, Hid (a = l[j]) := ⟨_, Lib.hid rfl⟩
      rw [← Ha.out] at hact
      obtain ⟨x1, x2, x3, x4, x5, x6⟩ := hact.below HS.out.toBelow hbk
      have HDo := Lib.hid (HS.out.act a (by rw [Ha.out]; exact Hok.out.1 _ (List.getElem_mem _)) (run_fits (fun c hc => HZ.out c (List.mem_of_mem_take hc)) (zero_fits n)) (by rw [List.length_take]; omega))
      clear hact
      go_wp2_with fail
      refine HDo.out.mono ?_
      rintro e wn ⟨rfl, hs⟩
      have HSn := Lib.hid hs
      clear hs x1 x2 x3 x4 x5 x6
      go_wp2
      go_roundw
      case rel => exact ⟨j + 1, by omega, by go_num, Lib.hid (by rw [runD_take hjl, ← Ha.out]; exact HSn.out)⟩
      case measure => simp [intOf]; omega
    · obtain rfl : L = j := by omega
      obtain ⟨D1, HD1⟩ : ∃ D1, Hid (D1 = runD n (Dsk.zero n) (l.take L)) := ⟨_, Lib.hid rfl⟩
      have HF1 : Hid (fits D1 60) := Lib.hid (by
        rw [HD1.out]
        exact (run_fits (fun c hc => HZ.out c (List.mem_of_mem_take hc)) (zero_fits n)).mono (by rw [List.length_take]; omega))
      rw [← HD1.out] at HS
      obtain ⟨D2, HD2⟩ : ∃ D2, Hid (D2 = Dsk.startD D1) := ⟨_, Lib.hid rfl⟩
      have HF2 : Hid (fits D2 60) := Lib.hid (by rw [HD2.out]; exact start_fits HF1.out)
      have HC2 : Hid (Calm D2) := Lib.hid (by rw [HD2.out]; exact start_calm _)
      go_wp2_with fail
      refine (HS.out.run (D' := D2) (fun pv h => by rw [HD2.out]; exact start_any h)).mono ?_
      rintro e wn ⟨rfl, hs⟩
      replace HS := Lib.hid hs
      clear hs
      obtain ⟨R, HR⟩ : ∃ R : ByteArray, Hid (R = ⟨D2.st.toArray⟩) := ⟨_, Lib.hid rfl⟩
      have hRs : R.size = 64 * n := by rw [HR.out]; show D2.st.toArray.size = _; rw [List.size_toArray]; exact HS.out.ok.st
      have hR1 : ((R.size : Int) != (n : Int) * 64) = false := by simp; omega
      have qR : (R.toList == R.toList) = true := beq_self_eq_true _
      clear hRs
      go_wp2_with fail
      refine (HS.out.still (fun pv h => by have := raw_any h; rw [← HR.out] at this; exact this)).mono ?_
      rintro e wn ⟨rfl, hs⟩
      replace HS := Lib.hid hs
      clear hs
      obtain ⟨x1, x2, x3, x4, x5, x6⟩ := HX.out.1.below HS.out.toBelow HX.out.2
      simp only [Nat.zero_add] at x2 x3 x4 x5 x6
      have hlt0 : w.heap.size < wn.heap.size := Nat.lt_of_lt_of_le HX.out.2 HS.out.toBelow.size
      go_wp2_with fail
      have p1 : ∀ X : Grown wn, X.w.cell? ⟨w.heap.size, 0, none⟩ = some (.int .i64 k) := fun X => by rw [X.cell hlt0, x1]
      have p2 : ∀ X : Grown wn, X.w.cell? ⟨w.heap.size, 1, none⟩ = some (.int .i64 s) := fun X => by rw [X.cell hlt0, x2]
      have p3 : ∀ X : Grown wn, X.w.cell? ⟨w.heap.size, 2, none⟩ = some (.int .i64 y) := fun X => by rw [X.cell hlt0, x3]
      have p4 : ∀ X : Grown wn, X.w.cell? ⟨w.heap.size, 3, none⟩ = some (.string t) := fun X => by rw [X.cell hlt0, x4]
      have p5 : ∀ X : Grown wn, X.w.cell? ⟨w.heap.size, 4, none⟩ = some (.bool odd) := fun X => by rw [X.cell hlt0, x5]
      have p6 : ∀ X : Grown wn, X.w.cell? ⟨w.heap.size, 5, none⟩ = some (.int .i64 f) := fun X => by rw [X.cell hlt0, x6]
      clear x1 x2 x3 x4 x5 x6
      refine wp_region_grown_tail 5 (by kernel_rfl) (by kernel_rfl) ?_
      simp only [List.take_succ_cons, List.take_zero, List.drop_succ_cons, List.drop_zero]
      repeat (go_big_quiet_step ((go_at_call 24; exact grown_of (HXt.out _))))
      refine wpQuiet_nil ?_
      intro X
      obtain ⟨D3, HD3⟩ : ∃ D3, Hid (D3 = Dsk.writeD n D2 s T) := ⟨_, Lib.hid rfl⟩
      have HF3 : Hid (fits D3 61) := Lib.hid (by rw [HD3.out]; exact write_fits HF2.out _ _)
      have HC3 : Hid (Calm D3 ∧ D3.st = D2.st) := Lib.hid (by rw [HD3.out]; exact ⟨(calm_write HC2.out s T).1, (calm_write HC2.out s T).2.1⟩)
      go_wp2_with fail
      refine ((HS.out.below X.below).run (D' := D3) (fun pv h => by rw [HD3.out]; exact write_any h s T HTs.out (by have := HF2.out.2; omega) HF2.out.1)).mono ?_
      rintro e wn ⟨rfl, hs⟩
      replace HS := Lib.hid hs
      clear hs p1 p2 p3 p4 p5 p6
      obtain ⟨x1, x2, x3, x4, x5, x6⟩ := HX.out.1.below HS.out.toBelow HX.out.2
      simp only [Nat.zero_add] at x2 x3 x4 x5 x6
      go_wp2_with fail
      refine (HS.out.look (fun pv h => read_any h s)).mono ?_
      rintro e wn ⟨rfl, hs⟩
      replace HS := Lib.hid hs
      clear hs x1 x2 x3 x4 x5 x6
      obtain ⟨x1, x2, x3, x4, x5, x6⟩ := HX.out.1.below HS.out.toBelow HX.out.2
      simp only [Nat.zero_add] at x2 x3 x4 x5 x6
      go_wp2_with fail
      refine (HS.out.still (fun pv h => by have := raw_any h; rw [HC3.out.2, ← HR.out] at this; exact this)).mono ?_
      rintro e wn ⟨rfl, hs⟩
      replace HS := Lib.hid hs
      clear hs x1 x2 x3 x4 x5 x6
      obtain ⟨x1, x2, x3, x4, x5, x6⟩ := HX.out.1.below HS.out.toBelow HX.out.2
      simp only [Nat.zero_add] at x2 x3 x4 x5 x6
      cases odd
      · obtain ⟨D4, HD4⟩ : ∃ D4, Hid (D4 = Dsk.syncD D3) := ⟨_, Lib.hid rfl⟩
        have HC4 : Hid (Calm D4 ∧ D4.pd = []) := Lib.hid (by
          have h1 := calm_sync HC3.out.1
          rw [HD4.out]
          exact ⟨h1.2.2, by rw [h1.1]⟩)
        go_wp2_with fail
        refine (HS.out.run (D' := D4) (fun pv h => by have := sync_any h HF3.out.1; rw [(calm_sync HC3.out.1).2.1, ← HD4.out] at this; exact this)).mono ?_
        rintro e wn ⟨rfl, hs⟩
        replace HS := Lib.hid hs
        clear hs x1 x2 x3 x4 x5 x6
        obtain ⟨pv4, hi4, hf4⟩ := HS.out.2
        have HCt := Lib.hid (contents_on hi4 HC4.out.1.1)
        clear hi4 hf4
        go_wp2_with fail
        refine HCt.out.mono ?_
        rintro e wn ⟨g2, cap2, rfl, hb, _, hrow⟩
        replace HS := Lib.hid (HS.out.below hb)
        have HRow := Lib.hid hrow
        clear hb hrow
        go_wp2
        go_loop [15, 16] (fun v i => ∃ (j : Nat) (S : ByteArray), j ≤ n ∧ i = .int .i64 j ∧ v = .string S ∧ S.size = 64 * j ∧ Hid (S.data.toList = ((List.range j).map fun q => Dsk.bytes D4.st q).flatten)) (fun _ i => n - (intOf i).toNat)
        case atStart => exact ⟨0, ⟨#[]⟩, by omega, rfl, rfl, by decide, Lib.hid rfl⟩
        case round =>
          obtain ⟨j, S, hj, rfl, rfl, hSz, HSj⟩ := hrel
          by_cases hlt : j < n
          · have hlt' : (j : Int) < n := by omega
            have hjl : j < (seenL D4 n).length := by rw [seenL_len]; exact hlt
            have hcj := (HRow.out.2 j hjl).1
            have e1 : (seenL D4 n)[j] = ⟨(Dsk.bytes D4.st j).toArray⟩ := by
              have h1 : (seenL D4 n)[j] = Dsk.seen D4 j := by simp [seenL]
              rw [h1, seen_calm HC4.out.2]
            rw [e1] at hcj
            obtain ⟨Y, HY⟩ : ∃ Y : ByteArray, Hid (Y = ⟨(Dsk.bytes D4.st j).toArray⟩) := ⟨_, Lib.hid rfl⟩
            have hYs : Y.size = 64 := by
              rw [HY.out]
              show (Dsk.bytes D4.st j).toArray.size = 64
              rw [List.size_toArray]
              exact bytes_len HS.out.ok.st hlt
            have HYs := Lib.hid hYs
            have HSz := Lib.hid hSz
            have hYb : (Y.size : Int) ≤ 64 := by omega
            have hSb : (S.size : Int) ≤ 1000 := by omega
            rw [← HY.out] at hcj
            clear e1 hYs hSz
            go_wp2
            go_round
            case rel =>
              refine ⟨j + 1, S ++ Y, by omega, by go_num, rfl, by rw [ByteArray.size_append, HYs.out, HSz.out]; omega, Lib.hid ?_⟩
              rw [List.range_succ, List.map_append, List.flatten_append, ← HSj.out, HY.out]
              simp
            case measure => simp [intOf]; omega
          · obtain rfl : j = n := by omega
            have HFin : Hid (S = ⟨D4.st.toArray⟩) := Lib.hid (by
              apply ByteArray.ext
              apply Array.ext'
              rw [HSj.out, bytes_all D4.st j HS.out.ok.st])
            have qS : (S.toList == S.toList) = true := beq_self_eq_true _
            replace hSz := Lib.hid hSz
            go_wp2_with fail
            refine (HS.out.still (fun pv h => by have := raw_any h; rw [← HFin.out] at this; exact this)).mono ?_
            rintro e wn ⟨rfl, hs⟩
            have HB9 := Lib.hid hs.toBelow
            clear hs
            go_wp2
            go_ret
            exact ⟨rfl, box_below HW0.out HB9.out⟩
      · obtain ⟨D4, HD4⟩ : ∃ D4, Hid (D4 = Dsk.fail D3 0 0) := ⟨_, Lib.hid rfl⟩
        have HR4 : Hid (D4.st = D2.st) := Lib.hid (by rw [HD4.out, fail_none, HC3.out.2])
        go_wp2_with fail
        refine (HS.out.run (D' := D4) (fun pv h => by rw [HD4.out]; exact fail_any h 0 0)).mono ?_
        rintro e wn ⟨rfl, hs⟩
        replace HS := Lib.hid hs
        clear hs x1 x2 x3 x4 x5 x6
        go_wp2_with fail
        refine (HS.out.still (fun pv h => by have := raw_any h; rw [HR4.out, ← HR.out] at this; exact this)).mono ?_
        rintro e wn ⟨rfl, hs⟩
        replace HS := Lib.hid hs
        clear hs
        go_wp2_with fail
        refine (HS.out.run (D' := Dsk.startD D4) (fun pv h => start_any h)).mono ?_
        rintro e wn ⟨rfl, hs⟩
        replace HS := Lib.hid hs
        clear hs
        go_wp2_with fail
        refine (HS.out.still (fun pv h => by have h1 := raw_any h; have h2 : (Dsk.startD D4).st = D2.st := HR4.out; rw [h2, ← HR.out] at h1; exact h1)).mono ?_
        rintro e wn ⟨rfl, hs⟩
        have HB9 := Lib.hid hs.toBelow
        clear hs
        go_wp2
        go_ret
        exact ⟨rfl, box_below HW0.out HB9.out⟩

theorem lawRaw_any (x0 : Int) (hx0 : 0 ≤ x0) (hx1 : x0 ≤ 255) (l : List Ac) (hn : l.length ≤ 9223372036854775807) (hz : ∀ a ∈ l, acFine a) (ao : Option Addr) (cap : Nat) (x : Ac) (hx : acFine x) (w : World) (hl : IsActs w ao l) :
    Calls Try.prog 10 #[.int .u8 x0, .slice ao l.length cap, acV x] w fun e w' => e = .returned (.bool true) ∧ Below w.heap.size w w' := by
  cases h1 : okB l
  · exact lawRaw_skip x0 l hn hz ao cap x hx (Or.inl h1) w hl
  · cases h2 : okB [x]
    · exact lawRaw_skip x0 l hn hz ao cap x hx (Or.inr ⟨h1, h2⟩) w hl
    · obtain ⟨k, s, y, t, odd, f⟩ := x
      obtain ⟨n, hn2⟩ : ∃ n : Nat, 1 + x0 % 12 = n := ⟨(1 + x0 % 12).toNat, by omega⟩
      exact lawRaw_main x0 hx0 hx1 n hn2 l hz ao cap k s y f t odd hx h1 h2 w hl

end Go.Proofs.Ytenddmcepfkbaaa
