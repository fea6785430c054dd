/- The statement on the first writes that a failure leaves: its walk. -/
import Derived.Test.YtenddmcepfkbaaaDskPrefHeld
namespace Go.Proofs.Ytenddmcepfkbaaa
open Go.RowKit

set_option maxRecDepth 100000 in
set_option maxHeartbeats 2000000 in
theorem lawPrefix_skip (x0 x y : Int) (l : List Ac) (hn : l.length ≤ 9223372036854775807) (hz : ∀ a ∈ l, acFine a) (ao : Option Addr) (cap : Nat) (l2 : List Ac) (hn2 : l2.length ≤ 9223372036854775807) (hz2 : ∀ a ∈ l2, acFine a) (ao2 : Option Addr) (cap2 : Nat) (hbad : okB l = false ∨ (okB l = true ∧ okB l2 = false)) (w : World) (hl : IsActs w ao l) (hl2 : IsActs w ao2 l2) :
    Calls Try.prog 5 #[.int .u8 x0, .slice ao l.length cap, .slice ao2 l2.length cap2, .int .u8 x, .int .u8 y] w fun e w' => e = .returned (.bool true) ∧ Below w.heap.size w w' := by
  obtain ⟨L, HL⟩ : ∃ L, Hid (L = l.length) := ⟨_, Lib.hid rfl⟩
  obtain ⟨M, HM⟩ : ∃ M, Hid (M = l2.length) := ⟨_, Lib.hid rfl⟩
  have HAc := Lib.hid hl
  have HAc2 := Lib.hid hl2
  have HK : Hid (∀ W, IsActs W ao l → Calls Try.prog 12 #[.slice ao L cap] W fun e w' => e = .returned (.bool (okB l)) ∧ W = w') := Lib.hid fun W h => by
    rw [HL.out]; exact ok_any l hn (fun a ha => (hz a ha).1) ao cap W h
  have HK2 : Hid (∀ W, IsActs W ao2 l2 → Calls Try.prog 12 #[.slice ao2 M cap2] W fun e w' => e = .returned (.bool (okB l2)) ∧ W = w') := Lib.hid fun W h => by
    rw [HM.out]; exact ok_any l2 hn2 (fun a ha => (hz2 a ha).1) ao2 cap2 W h
  rw [← HL.out, ← HM.out]
  clear hn hz hl hn2 hz2 hl2
  go_enter Try.func5, Try.ntmps5
  go_wp2_with fail
  refine (head46_any _).mono ?_
  rintro e v1 ⟨rfl, hb⟩
  have HB := Lib.hid hb
  clear hb
  rcases hbad with h1 | ⟨h1, h2⟩
  · rw [h1] at HK
    go_wp2_with fail
    refine (HK.out _ (HAc.out.grown HB.out)).mono ?_
    rintro e _ ⟨rfl, rfl⟩
    go_wp2
    go_ret
    exact ⟨rfl, HB.out⟩
  · rw [h1] at HK
    rw [h2] at HK2
    go_wp2_with fail
    refine (HK.out _ (HAc.out.grown HB.out)).mono ?_
    rintro e _ ⟨rfl, rfl⟩
    go_wp2_with fail
    refine (HK2.out _ (HAc2.out.grown HB.out)).mono ?_
    rintro e _ ⟨rfl, rfl⟩
    go_wp2
    go_ret
    exact ⟨rfl, HB.out⟩

set_option maxRecDepth 100000 in
set_option maxHeartbeats 16000000 in
theorem lawPrefix_main (x0 x y : Int) (hx0 : 0 ≤ x0) (hx1 : x0 ≤ 255) (hx2 : 0 ≤ x) (hx3 : x ≤ 255) (hx4 : 0 ≤ y) (hx5 : y ≤ 255) (n : Nat) (hnx : 1 + x0 % 12 = (n : Int)) (l : List Ac) (hz : ∀ a ∈ l, acFine a) (ao : Option Addr) (cap : Nat) (hk1 : okB l = true) (l2 : List Ac) (hz2 : ∀ a ∈ l2, acFine a) (ao2 : Option Addr) (cap2 : Nat) (hk2 : okB l2 = true) (w : World) (hl : IsActs w ao l) (hl2 : IsActs w ao2 l2) :
    Calls Try.prog 5 #[.int .u8 x0, .slice ao l.length cap, .slice ao2 l2.length cap2, .int .u8 x, .int .u8 y] w fun e w' => e = .returned (.bool true) ∧ Below w.heap.size w w' := by
  have HN : Hid (1 ≤ n ∧ n ≤ 12) := Lib.hid ⟨by omega, by omega⟩
  obtain ⟨L, HL⟩ : ∃ L, Hid (L = l.length) := ⟨_, Lib.hid rfl⟩
  have HAc := Lib.hid hl
  have HK : Hid (∀ W, IsActs W ao l → Calls Try.prog 12 #[.slice ao L cap] W fun e w' => e = .returned (.bool true) ∧ W = w') := Lib.hid fun W h => by
    have h1 := ok_any l (by have := (okB_iff.1 hk1).2; omega) (fun a ha => (hz a ha).1) ao cap W h
    rw [hk1] at h1
    rw [HL.out]; exact h1
  obtain ⟨M, HM⟩ : ∃ M, Hid (M = l2.length) := ⟨_, Lib.hid rfl⟩
  have HAc2 := Lib.hid hl2
  have HK2 : Hid (∀ W, IsActs W ao2 l2 → Calls Try.prog 12 #[.slice ao2 M cap2] W fun e w' => e = .returned (.bool true) ∧ W = w') := Lib.hid fun W h => by
    have h1 := ok_any l2 (by have := (okB_iff.1 hk2).2; omega) (fun a ha => (hz2 a ha).1) ao2 cap2 W h
    rw [hk2] at h1
    rw [HM.out]; exact h1
  have Hok2 := Lib.hid (okB_iff.1 hk2)
  have hM60 : (M : Int) ≤ 60 := by have := Hok2.out.2; have := HM.out; omega
  obtain ⟨kw, hkw⟩ : ∃ kw : Nat, x % 61 = (kw : Int) := ⟨(x % 61).toNat, by omega⟩
  obtain ⟨bt, hbt⟩ : ∃ bt : Nat, y % 33 = (bt : Int) := ⟨(y % 33).toNat, by omega⟩
  have hkw60 : kw ≤ 60 := by omega
  have hbt32 : (bt : Int) ≤ 32 := by omega
  have u1 : IntKind.i64.wrap x = x := by rw [IntKind.wrap_i64]; omega
  have u2 : IntKind.i64.wrap y = y := by rw [IntKind.wrap_i64]; omega
  have u3 : x.tmod 61 = (kw : Int) := by rw [Int.tmod_eq_emod_of_nonneg hx2]; exact hkw
  have u4 : y.tmod 33 = (bt : Int) := by rw [Int.tmod_eq_emod_of_nonneg hx4]; exact hbt
  have u5 : IntKind.i64.wrap (kw : Int) = (kw : Int) := by rw [IntKind.wrap_i64]; omega
  have u6 : IntKind.i64.wrap (bt : Int) = (bt : Int) := by rw [IntKind.wrap_i64]; omega
  have HPre : Hid (∀ (D3 : Dsk.Dk) (_ : D3 = Dsk.syncD (Dsk.startD (runD n (Dsk.zero n) l))) (W : World), IsActs W ao l → IsActs W ao2 l2 → Calls Try.prog 26 #[.int .i64 n, .slice ao L cap, .slice ao2 M cap2, .int .i64 kw] W (ContPost n W (pnd D3 ((vw n l2).take kw)))) := Lib.hid fun D3 hD3 W h1 h2 => by
    rw [HL.out, HM.out]
    exact prefix_any n HN.out.1 HN.out.2 l hz ao cap hk1 l2 hz2 ao2 cap2 hk2 kw hkw60 D3 hD3 W h1 h2
  have HSz : Hid (∀ W, Calls Try.prog 14 #[.int .u8 x0] W fun e w' => e = .returned (.int .i64 (n : Int)) ∧ W = w') := Lib.hid fun W => by
    have := size_any x0 hx0 hx1 W
    rw [hnx] at this
    exact this
  have Hok := Lib.hid (okB_iff.1 hk1)
  have HZ := Lib.hid hz
  have hL60 : (L : Int) ≤ 60 := by have := Hok.out.2; have := HL.out; omega
  rw [← HL.out, ← HM.out]
  have HSame : Hid (∀ (W : World) (ss tt : List ByteArray) (g g' c c' : Nat), ss.length = n → tt.length = n → SRow W g ss → SRow W g' tt → Calls Try.prog 27 #[.slice (some ⟨g, 0, none⟩) n c, .slice (some ⟨g', 0, none⟩) n c'] W fun e w' => e = .returned (.bool (decide (ss = tt))) ∧ Below W.heap.size W w') := Lib.hid fun W ss tt g g' c c' h1 h2 h3 h4 => same_rows h1 h2 (by have := HN.out.2; omega) h3 h4
  clear hz hl hk1 hx0 hx1 hnx hz2 hl2 hk2
  go_enter Try.func5, Try.ntmps5
  go_wp2_with fail
  refine (head46_any _).mono ?_
  rintro e v1 ⟨rfl, hb⟩
  have HB := Lib.hid hb
  clear hb
  go_wp2_with fail
  refine (HK.out _ (HAc.out.grown HB.out)).mono ?_
  rintro e _ ⟨rfl, rfl⟩
  go_wp2_with fail
  refine (HK2.out _ (HAc2.out.grown HB.out)).mono ?_
  rintro e _ ⟨rfl, rfl⟩
  go_wp2_with fail
  refine (HSz.out _).mono ?_
  rintro e _ ⟨rfl, rfl⟩
  go_wp2_with fail
  refine (new_any n HN.out.1 (by have := HN.out.2; omega) _).mono ?_
  rintro e v2 ⟨b, rfl, hb, hbn, bs, hbsn, hi⟩
  have HS0 : Hid (St n w (fun _ => False) v2 b bs (Dsk.zero n)) := Lib.hid (St.new (below_step HB.out hb) hi (fun j hj => Nat.le_trans HB.out.size (new_foot hbn hbsn j hj)))
  clear hb hbn hbsn hi
  have HS1 := HS0
  go_wp2
  go_loopw [16] (fun i wr => ∃ j : Nat, j ≤ L ∧ i = .int .i64 j ∧ Hid (St n w (fun _ => False) wr b bs (runD n (Dsk.zero n) (l.take j)))) (fun i _ => L - (intOf i).toNat)
  case atStart => exact ⟨0, by omega, rfl, HS1⟩
  case round =>
    obtain ⟨j, hj, rfl, HS⟩ := hrel
    by_cases hlt : j < L
    · have hjl : j < l.length := by rw [← HL.out]; exact hlt
      have hlt' : (j : Int) < L := by omega
      obtain ⟨bk, off, rfl, hbk, hact⟩ := HAc.out.at hjl
      obtain ⟨a', Ha⟩ : ∃ a, Hid (a = l[j]) := ⟨_, Lib.hid rfl⟩
      rw [← Ha.out] at hact
      obtain ⟨x1, x2, x3, x4, x5, x6⟩ := hact.below HS.out.toBelow hbk
      have HDo := Lib.hid (HS.out.act a' (by rw [Ha.out]; exact Hok.out.1 _ (List.getElem_mem _)) (run_fits (fun c hc => HZ.out c (List.mem_of_mem_take hc)) (zero_fits n)) (by rw [List.length_take]; omega))
      clear hact
      go_wp2_with fail
      refine HDo.out.mono ?_
      rintro e wn ⟨rfl, hs⟩
      have HSn := Lib.hid hs
      clear hs x1 x2 x3 x4 x5 x6
      go_wp2
      go_roundw
      case rel => exact ⟨j + 1, by omega, by go_num, Lib.hid (by rw [runD_take hjl, ← Ha.out]; exact HSn.out)⟩
      case measure => simp [intOf]; omega
    · obtain rfl : L = j := by omega
      obtain ⟨D1, HD1⟩ : ∃ D1, Hid (D1 = runD n (Dsk.zero n) (l.take L)) := ⟨_, Lib.hid rfl⟩
      have HF1 : Hid (fits D1 60) := Lib.hid (by
        rw [HD1.out]
        exact (run_fits (fun c hc => HZ.out c (List.mem_of_mem_take hc)) (zero_fits n)).mono (by rw [List.length_take]; omega))
      rw [← HD1.out] at HS
      obtain ⟨D2, HD2⟩ : ∃ D2, Hid (D2 = Dsk.startD D1) := ⟨_, Lib.hid rfl⟩
      have HF2 : Hid (fits D2 60) := Lib.hid (by rw [HD2.out]; exact start_fits HF1.out)
      have HC2 : Hid (Calm D2) := Lib.hid (by rw [HD2.out]; exact start_calm _)
      go_wp2_with fail
      refine (HS.out.run (D' := D2) (fun pv h => by rw [HD2.out]; exact start_any h)).mono ?_
      rintro e wn ⟨rfl, hs⟩
      replace HS := Lib.hid hs
      clear hs
      obtain ⟨D3, HD3⟩ : ∃ D3, Hid (D3 = Dsk.syncD D2) := ⟨_, Lib.hid rfl⟩
      have HA3 : Hid (D3.pd = [] ∧ Calm D3 ∧ Dsk.syncE D2 = 0) := Lib.hid (by
        have h1 := calm_sync HC2.out
        rw [HD3.out]
        exact ⟨by rw [h1.1], h1.2.2, h1.2.1⟩)
      go_wp2_with fail
      refine (HS.out.run (D' := D3) (fun pv h => by have := sync_any h HF2.out.1; rw [HA3.out.2.2, ← HD3.out] at this; exact this)).mono ?_
      rintro e wn ⟨rfl, hs⟩
      replace HS := Lib.hid hs
      clear hs
      have HF3 : Hid (fits D3 60) := Lib.hid (by rw [HD3.out]; exact sync_fits HF2.out)
      clear u1 u2 u3 u4 u5 u6
      have HP0 : ∀ W, St n w (fun _ => False) W b bs D3 → Pref n w (W.alloc (.cells (actC noAct) 34)) b bs (pnd D3 (vw n (l2.take 0))) W.heap.size noAct := fun W h => by
        have : vw n (l2.take 0) = [] := rfl
        rw [this, wr_self HA3.out.1]
        exact Pref.new h noAct
      replace HP0 := Lib.hid (HP0 _ HS.out)
      unfold actC at HP0
      simp only [noAct] at HP0
      have HF3 : Hid (fits D3 60) := Lib.hid (by rw [HD3.out]; exact sync_fits HF2.out)
      have HDD : Hid (D3 = Dsk.syncD (Dsk.startD (runD n (Dsk.zero n) l))) := Lib.hid (by rw [HD3.out, HD2.out, HD1.out, List.take_of_length_le (by rw [HL.out]; exact Nat.le_refl _)])
      have HBs := Lib.hid HS.out.toBelow
      have Hlen : Hid (D3.st.length = 64 * n) := Lib.hid HS.out.ok.st
      go_wp2_with fail
      obtain ⟨gn, Hgn⟩ : ∃ gn, Hid (gn = wn.heap.size) := ⟨_, Lib.hid rfl⟩
      rw [← Hgn.out] at HP0 ⊢
      clear hkw hbt hx2 hx3 hx4 hx5
      go_loopw [17, 19] (fun d i wr => ∃ j : Nat, j ≤ M ∧ i = .int .i64 j ∧ ∃ dn : Nat, d = .int .i64 dn ∧ Hid (dn = (vw n (l2.take j)).length) ∧ Hid (∃ a, Pref n w wr b bs (pnd D3 (vw n (l2.take j))) gn a ∧ Nx (vw n (l2.take j)) kw a)) (fun _ i _ => M - (intOf i).toNat)
      case atStart => exact ⟨0, by omega, rfl, 0, rfl, Lib.hid rfl, Lib.hid ⟨_, HP0.out, Nx.nil kw⟩⟩
      case round =>
        obtain ⟨j, hj, rfl, dn, rfl, HDn, HE⟩ := hrel
        obtain ⟨na, hP, hN⟩ := HE.out
        have HH := Lib.hid hP
        have HNx := Lib.hid hN
        clear hP hN HE
        by_cases hlt : j < M
        · have hlt' : (j : Int) < M := by omega
          have hjl : j < l2.length := by rw [← HM.out]; exact hlt
          obtain ⟨bk, off, rfl, hbk, hact⟩ := HAc2.out.at hjl
          obtain ⟨a', Ha⟩ : ∃ a, Hid (a = l2[j]) := ⟨_, Lib.hid rfl⟩
          have hts : a'.text.size ≤ 100 := by rw [Ha.out]; exact Hok2.out.1 _ (List.getElem_mem _)
          have Hts := Lib.hid hts
          have HY := Lib.hid (fun h => vw_yes (n := n) hjl h)
          have HNo := Lib.hid (fun h => vw_no (n := n) hjl h)
          rw [← Ha.out] at hact HY HNo
          clear Ha
          obtain ⟨k, s, y', t, odd, f⟩ := a'
          obtain ⟨T, HT⟩ : ∃ T, Hid (T = textV odd t) := ⟨_, Lib.hid rfl⟩
          have HXt : Hid (∀ W, Calls Try.prog 24 #[.agg #[.int .i64 k, .int .i64 s, .int .i64 y', .string t, .bool odd, .int .i64 f]] W fun e w' => e = .returned (.string T) ∧ Below W.heap.size W w') := Lib.hid fun W => by
            rw [HT.out]; exact text_any ⟨k, s, y', t, odd, f⟩ hts W
          have HTs : Hid (T.size ≤ 9223372036854775807) := Lib.hid (by rw [HT.out]; exact textV_size odd t hts)
          replace HY : Hid ((Dsk.has n s && (T.size == 64)) = true → vw n (l2.take (j + 1)) = vw n (l2.take j) ++ [(s.toNat, T)]) := Lib.hid (by rw [HT.out]; exact HY.out)
          replace HNo : Hid ((Dsk.has n s && (T.size == 64)) = false → vw n (l2.take (j + 1)) = vw n (l2.take j)) := Lib.hid (by rw [HT.out]; exact HNo.out)
          have HQ : Hid ((vw n (l2.take j)).length ≤ 60) := Lib.hid (by have h1 := vw_len n (l2.take j); rw [List.length_take] at h1; omega)
          obtain ⟨Q, HQe⟩ : ∃ Q, Hid (Q = vw n (l2.take j)) := ⟨_, Lib.hid rfl⟩
          rw [← HQe.out] at HH HQ HDn HY HNo HNx
          have HAt := Lib.hid (And.intro hact hbk)
          obtain ⟨x1, x2, x3, x4, x5, x6⟩ := hact.below HH.out.1 hbk
          have hlt1 : bk < wr.heap.size := Nat.lt_of_lt_of_le hbk HH.out.1.size
          have p1 : ∀ X : Grown wr, X.w.cell? ⟨bk, off + j * 6, none⟩ = some (.int .i64 k) := fun X => by rw [X.cell hlt1, x1]
          have p2 : ∀ X : Grown wr, X.w.cell? ⟨bk, off + j * 6 + 1, none⟩ = some (.int .i64 s) := fun X => by rw [X.cell hlt1, x2]
          have p3 : ∀ X : Grown wr, X.w.cell? ⟨bk, off + j * 6 + 2, none⟩ = some (.int .i64 y') := fun X => by rw [X.cell hlt1, x3]
          have p4 : ∀ X : Grown wr, X.w.cell? ⟨bk, off + j * 6 + 3, none⟩ = some (.string t) := fun X => by rw [X.cell hlt1, x4]
          have p5 : ∀ X : Grown wr, X.w.cell? ⟨bk, off + j * 6 + 4, none⟩ = some (.bool odd) := fun X => by rw [X.cell hlt1, x5]
          have p6 : ∀ X : Grown wr, X.w.cell? ⟨bk, off + j * 6 + 5, none⟩ = some (.int .i64 f) := fun X => by rw [X.cell hlt1, x6]
          clear x1 x2 x3 x4 x5 x6 hact hbk hts
          go_wp2_with fail
          refine wp_region_grown_tail 11 (by kernel_rfl) (by kernel_rfl) ?_
          simp only [List.take_succ_cons, List.take_zero, List.drop_succ_cons, List.drop_zero]
          repeat (go_big_quiet_step ((go_at_call 24; exact grown_of (HXt.out _))))
          refine wpQuiet_nil ?_
          intro Z
          have HHz := Lib.hid (HH.out.below Z.below)
          clear p1 p2 p3 p4 p5 p6
          cases hv : (Dsk.has n s && (T.size == 64))
          · have HE2 := Lib.hid (wr_no (n := n) HA3.out.2.1 Q hv)
            have hnx := HNo.out hv
            clear hv
            go_wp2_with fail
            refine (HHz.out.run (D' := pnd D3 Q) (fun pv h => by have := write_any h s T HTs.out (Nat.lt_of_le_of_lt HQ.out (by decide)) HF3.out.1; rw [HE2.out.1, HE2.out.2] at this; exact this)).mono ?_
            rintro e wo ⟨rfl, hs⟩
            have HHn := Lib.hid hs
            clear hs
            go_wp2
            go_roundw
            case rel => exact ⟨j + 1, by omega, by go_num, dn, rfl, Lib.hid (by rw [hnx]; exact HDn.out), Lib.hid (by rw [hnx]; exact ⟨_, HHn.out, HNx.out⟩)⟩
            case measure => simp [intOf]; omega
          · have HE2 := Lib.hid (wr_yes (n := n) HA3.out.2.1 Q hv)
            have hnx := HY.out hv
            rw [Bool.and_eq_true] at hv
            have Hs0 : Hid (0 ≤ s) := Lib.hid (Dsk.has_iff.1 hv.1).1
            clear hv
            go_wp2_with fail
            refine (HHz.out.run (D' := pnd D3 (Q ++ [(s.toNat, T)])) (fun pv h => by have := write_any h s T HTs.out (Nat.lt_of_le_of_lt HQ.out (by decide)) HF3.out.1; rw [HE2.out.1, HE2.out.2] at this; exact this)).mono ?_
            rintro e wo ⟨rfl, hs⟩
            have HHn := Lib.hid hs
            clear hs
            have hd60 : (dn : Int) ≤ 60 := by have := HQ.out; have := HDn.out; omega
            by_cases hdk : dn = kw
            · have hdk' : (dn : Int) = kw := by omega
              obtain ⟨x1, x2, x3, x4, x5, x6⟩ := HAt.out.1.below HHn.out.1 HAt.out.2
              have HNb := Lib.hid (Nx.hit (q := Q) (a := ⟨k, s, y', t, odd, f⟩) (HDn.out.symm.trans hdk) Hs0.out Hts.out)
              have z := HHn.out.act
              obtain ⟨z1, z2, z3, z4, z5, z6⟩ := z
              simp only [Nat.zero_add] at z2 z3 z4 z5 z6
              have zf : ∀ i, wo.frozen? ⟨gn, i, none⟩ = false := fun i => HHn.out.2.2.1.frozen i
              go_wp2
              go_roundw
              case rel =>
                refine ⟨j + 1, by omega, by go_num, kw + 1, by go_num, Lib.hid (by rw [hnx, List.length_append, ← HDn.out, hdk]; rfl), Lib.hid ?_⟩
                rw [hnx]
                refine ⟨⟨k, s, y', t, odd, f⟩, HHn.out.put _ ?_ ?_, ?_⟩
                · exact (((((((Only.refl (fun q => q = gn) wo).setCell (p := ⟨gn, 0, none⟩) (Or.inl rfl) _).setCell (p := ⟨gn, 1, none⟩) (Or.inl rfl) _).setCell (p := ⟨gn, 2, none⟩) (Or.inl rfl) _).setCell (p := ⟨gn, 3, none⟩) (Or.inl rfl) _).setCell (p := ⟨gn, 4, none⟩) (Or.inl rfl) _).setCell (p := ⟨gn, 5, none⟩) (Or.inl rfl) _)
                · exact ((((((HHn.out.2.2.1.set 0 _).set 1 _).set 2 _).set 3 _).set 4 _).set 5 _)
                · rw [HT.out]; exact HNb.out
              case measure => simp [intOf]; omega
            · have hdk' : ¬ (dn : Int) = kw := by omega
              have hdk2 : ((dn : Int) == kw) = false := by simp [hdk']
              have HNb := Lib.hid (HNx.out.miss (p := (s.toNat, T)) (fun e => hdk (HDn.out.trans e)))
              go_wp2
              go_roundw
              case rel => exact ⟨j + 1, by omega, by go_num, dn + 1, by go_num, Lib.hid (by rw [hnx, List.length_append, ← HDn.out]; rfl), Lib.hid (by rw [hnx]; exact ⟨_, HHn.out, HNb.out⟩)⟩
              case measure => simp [intOf]; omega
        · obtain rfl : M = j := by omega
          have e : l2.take M = l2 := List.take_of_length_le (by rw [HM.out]; exact Nat.le_refl _)
          rw [e] at HH HNx
          have HQf : Hid (∀ p ∈ vw n l2, p.1 < n ∧ p.2.size = 64) := Lib.hid vw_fine
          have HPre2 := Lib.hid (HPre.out D3 HDD.out)
          obtain ⟨Q, HQe⟩ : ∃ Q, Hid (Q = vw n l2) := ⟨_, Lib.hid rfl⟩
          rw [← HQe.out] at HH HNx HQf HPre2
          obtain ⟨D4, HD4⟩ : ∃ D4, Hid (D4 = Dsk.fail (pnd D3 Q) kw bt) := ⟨_, Lib.hid rfl⟩
          obtain ⟨D5, HD5⟩ : ∃ D5, Hid (D5 = Dsk.startD D4) := ⟨_, Lib.hid rfl⟩
          have HC5 : Hid (Calm D5) := Lib.hid (by rw [HD5.out]; exact start_calm _)
          have HD54 : Hid (D5 = Dsk.startD (Dsk.fail (pnd D3 Q) kw bt)) := Lib.hid (by rw [HD5.out, HD4.out])
          obtain ⟨D6, HD6⟩ : ∃ D6, Hid (D6 = pnd D3 (Q.take kw)) := ⟨_, Lib.hid rfl⟩
          rw [← HD6.out] at HPre2
          go_wp2_with fail
          refine (HH.out.run (D' := D4) (fun pv h => by rw [HD4.out]; exact fail_any h kw bt)).mono ?_
          rintro e wo ⟨rfl, hs⟩
          replace HH := Lib.hid hs
          clear hs
          go_wp2_with fail
          refine (HH.out.run (D' := D5) (fun pv h => by rw [HD5.out]; exact start_any h)).mono ?_
          rintro e wo ⟨rfl, hs⟩
          replace HH := Lib.hid hs
          clear hs
          go_wp2_with fail
          refine (HH.out.contents HC5.out.1).mono ?_
          rintro e wc ⟨g2, capb, rfl, hb, hg2, hr2⟩
          have HR2 := Lib.hid hr2
          replace HH := Lib.hid (HH.out.below hb)
          clear hb hg2 hr2
          go_wp2_with fail
          refine (HPre2.out _ (HAc.out.grown HH.out.1) (HAc2.out.grown HH.out.1)).mono ?_
          rintro e wd ⟨g3, capc, rfl, hb, hg3, hr3⟩
          have HR3 := Lib.hid hr3
          have HG3 : Hid (g2 < g3) := Lib.hid (Nat.lt_of_lt_of_le HR2.out.1 hg3)
          have HG3w : Hid (w.heap.size ≤ g3) := Lib.hid (Nat.le_trans HH.out.1.size hg3)
          replace HR2 := Lib.hid (HR2.out.below hb)
          replace HH := Lib.hid (HH.out.below hb)
          clear hb hg3 hr3
          obtain ⟨z1, z2, z3, z4, z5, z6⟩ := HH.out.act
          simp only [Nat.zero_add] at z2 z3 z4 z5 z6
          rcases HNx.out with ⟨q1, q2, q3⟩ | ⟨q1, rfl⟩
          · obtain ⟨k, s, y', t, odd, f⟩ := na
            simp only at q1 q2 q3 z1 z2 z3 z4 z5 z6
            obtain ⟨T, HT⟩ : ∃ T, Hid (T = textV odd t) := ⟨_, Lib.hid rfl⟩
            have HXt : Hid (∀ W, Calls Try.prog 24 #[.agg #[.int .i64 k, .int .i64 s, .int .i64 y', .string t, .bool odd, .int .i64 f]] W fun e w' => e = .returned (.string T) ∧ Below W.heap.size W w') := Lib.hid fun W => by
              rw [HT.out]; exact text_any ⟨k, s, y', t, odd, f⟩ q3 W
            rw [← HT.out] at q1
            obtain ⟨sN, rfl⟩ : ∃ q : Nat, s = q := ⟨s.toNat, by omega⟩
            rw [Int.toNat_natCast] at q1
            obtain ⟨hlQ, hQk⟩ := List.getElem?_eq_some_iff.1 q1
            have hpf := HQf.out _ (List.getElem_mem hlQ)
            rw [hQk] at hpf
            have HTs := Lib.hid hpf.2
            have hs4 : sN < n := hpf.1
            have hs1 : (sN : Int) < n := by omega
            have hs2 : ¬ (n : Int) ≤ (sN : Int) := by omega
            have hk6 : Dsk.ok n D6 := by
              rw [HD6.out]
              exact ⟨Hlen.out, fun p hp => HQf.out p (List.mem_of_mem_take hp), HN.out.1, by have := HN.out.2; omega, by show (Q.take kw).length ≤ _; rw [List.length_take]; omega⟩
            have hos := seen_size hk6 hs4
            have HQk := Lib.hid hQk
            have HlQ := Lib.hid hlQ
            obtain ⟨old, Hold⟩ : ∃ q, Hid (q = Dsk.seen D6 sN) := ⟨_, Lib.hid rfl⟩
            have hTb : (bt : Int) ≤ T.size := by have := HTs.out; simp only at this; omega
            have hob : (bt : Int) ≤ old.size := by rw [Hold.out]; omega
            have Hos : Hid (old.size = 64) := Lib.hid (by rw [Hold.out]; exact hos)
            have hcat : ¬ (9223372036854775807 < min bt T.size + (old.size - bt)) := by rw [Hos.out]; omega
            clear q1 q2 q3 hpf hk6 hos hQk
            obtain ⟨r1, r2⟩ := HR3.out.2 sN (by rw [seenL_len]; exact hs4)
            rw [seenL_get, ← Hold.out] at r1
            have l1 := lt_of_cell r1
            have l2 := lt_of_cell z1
            have HSt : Hid (∀ v : ByteArray, v = ⟨(T.data.toList.take bt ++ old.data.toList.drop bt).toArray⟩ → (seenL D6 n).set sN v = seenL D5 n) := Lib.hid fun v hv => by
              apply List.ext_getElem (by rw [List.length_set, seenL_len, seenL_len])
              intro j h1 h2
              have h3 := seen_torn Hlen.out HA3.out.2.1 HQf.out kw bt HlQ.out (by omega) HD54.out j
              rw [HQk.out, ← HD6.out] at h3
              rw [List.getElem_set, seenL_get, seenL_get, h3]
              by_cases e : sN = j
              · subst e; rw [if_pos rfl, if_pos rfl, hv, Hold.out]
              · rw [if_neg e, if_neg e]
            have p1 : ∀ X : Grown wd, X.w.cell? ⟨gn, 0, none⟩ = some (.int .i64 k) := fun X => by rw [X.cell l2, z1]
            have p2 : ∀ X : Grown wd, X.w.cell? ⟨gn, 1, none⟩ = some (.int .i64 (sN : Int)) := fun X => by rw [X.cell l2, z2]
            have p3 : ∀ X : Grown wd, X.w.cell? ⟨gn, 2, none⟩ = some (.int .i64 y') := fun X => by rw [X.cell l2, z3]
            have p4 : ∀ X : Grown wd, X.w.cell? ⟨gn, 3, none⟩ = some (.string t) := fun X => by rw [X.cell l2, z4]
            have p5 : ∀ X : Grown wd, X.w.cell? ⟨gn, 4, none⟩ = some (.bool odd) := fun X => by rw [X.cell l2, z5]
            have p6 : ∀ X : Grown wd, X.w.cell? ⟨gn, 5, none⟩ = some (.int .i64 f) := fun X => by rw [X.cell l2, z6]
            have p7 : ∀ X : Grown wd, X.w.cell? ⟨g3, sN, none⟩ = some (.string old) := fun X => by rw [X.cell l1, r1]
            go_wp2_with fail
            refine wp_region_grown_tail 16 (by kernel_rfl) (by kernel_rfl) ?_
            simp only [List.take_succ_cons, List.take_zero, List.drop_succ_cons, List.drop_zero]
            repeat (go_big_quiet_step ((go_at_call 24; exact grown_of (HXt.out _))))
            refine wpQuiet_nil ?_
            intro Z
            clear p1 p2 p3 p4 p5 p6 p7 z1 z2 z3 z4 z5 z6 r1 r2
            have HRz := Lib.hid (HR3.out.below Z.below)
            have HR2z := Lib.hid (HR2.out.below Z.below)
            have HHz := Lib.hid (HH.out.below Z.below)
            obtain ⟨r1, r2⟩ := HRz.out.2 sN (by rw [seenL_len]; exact hs4)
            rw [seenL_get, ← Hold.out] at r1
            obtain ⟨Wz, HWz⟩ : ∃ Wz, Hid (Wz = Z.w) := ⟨_, Lib.hid rfl⟩
            rw [← HWz.out] at HRz HR2z HHz r1 r2 ⊢
            have HO6 : Hid (Only (fun q => q = g3) Wz (Wz.setCell ⟨g3, sN, none⟩ (.string (T.extract 0 bt ++ old.extract bt old.size)))) := Lib.hid ((Only.refl (fun q => q = g3) Wz).setCell (p := ⟨g3, sN, none⟩) (Or.inl rfl) _)
            have HR3f : Hid (SRow (Wz.setCell ⟨g3, sN, none⟩ (.string (T.extract 0 bt ++ old.extract bt old.size))) g3 (seenL D5 n)) := Lib.hid (by
              have h1 := HRz.out.set (k := sN) (by rw [seenL_len]; exact hs4) (T.extract 0 bt ++ old.extract bt old.size)
              rw [HSt.out _ (cat_parts T old bt)] at h1
              exact h1)
            have HR2f : Hid (SRow (Wz.setCell ⟨g3, sN, none⟩ (.string (T.extract 0 bt ++ old.extract bt old.size))) g2 (seenL D5 n)) := Lib.hid (HR2z.out.kept HO6.out (fun e => by have := HG3.out; omega))
            have HBf : Hid (Below w.heap.size w (Wz.setCell ⟨g3, sN, none⟩ (.string (T.extract 0 bt ++ old.extract bt old.size)))) := Lib.hid (HHz.out.1.setCell (p := ⟨g3, sN, none⟩) HG3w.out _)
            go_wp2_with fail
            refine (HSame.out _ _ _ _ _ _ _ (seenL_len _ _) (seenL_len _ _) HR2f.out HR3f.out).mono ?_
            rintro e wf ⟨rfl, hb⟩
            rw [decide_eq_true rfl]
            have HB9 := Lib.hid (below_step HBf.out hb)
            go_wp2
            go_ret
            exact ⟨rfl, HB9.out⟩
          · have HEq : Hid (seenL D5 n = seenL D6 n) := Lib.hid (by
              rw [HD6.out]
              refine List.map_congr_left fun j _ => ?_
              exact seen_cut Hlen.out HA3.out.2.1 HQf.out kw bt q1 HD54.out j)
            simp only [noAct] at z1 z2 z3 z4 z5 z6
            have HBd := Lib.hid HH.out.1
            go_wp2_with fail
            refine (HSame.out _ _ _ _ _ _ _ (seenL_len _ _) (seenL_len _ _) HR2.out HR3.out).mono ?_
            rintro e wf ⟨rfl, hb⟩
            rw [decide_eq_true HEq.out]
            have HB9 := Lib.hid (below_step HBd.out hb)
            go_wp2
            go_ret
            exact ⟨rfl, HB9.out⟩

theorem lawPrefix_any (x0 : Int) (hx0 : 0 ≤ x0) (hx1 : x0 ≤ 255) (l : List Ac) (hn : l.length ≤ 9223372036854775807) (hz : ∀ a ∈ l, acFine a) (ao : Option Addr) (cap : Nat) (l2 : List Ac) (hn2 : l2.length ≤ 9223372036854775807) (hz2 : ∀ a ∈ l2, acFine a) (ao2 : Option Addr) (cap2 : Nat) (x : Int) (hx2 : 0 ≤ x) (hx3 : x ≤ 255) (y : Int) (hx4 : 0 ≤ y) (hx5 : y ≤ 255) (w : World) (hl : IsActs w ao l) (hl2 : IsActs w ao2 l2) :
    Calls Try.prog 5 #[.int .u8 x0, .slice ao l.length cap, .slice ao2 l2.length cap2, .int .u8 x, .int .u8 y] w fun e w' => e = .returned (.bool true) ∧ Below w.heap.size w w' := by
  cases h1 : okB l
  · exact lawPrefix_skip x0 x y l hn hz ao cap l2 hn2 hz2 ao2 cap2 (Or.inl h1) w hl hl2
  · cases h2 : okB l2
    · exact lawPrefix_skip x0 x y l hn hz ao cap l2 hn2 hz2 ao2 cap2 (Or.inr ⟨h1, h2⟩) w hl hl2
    · obtain ⟨n, hn3⟩ : ∃ n : Nat, 1 + x0 % 12 = n := ⟨(1 + x0 % 12).toNat, by omega⟩
      exact lawPrefix_main x0 x y hx0 hx1 hx2 hx3 hx4 hx5 n hn3 l hz ao cap h1 l2 hz2 ao2 cap2 h2 w hl hl2

end Go.Proofs.Ytenddmcepfkbaaa
