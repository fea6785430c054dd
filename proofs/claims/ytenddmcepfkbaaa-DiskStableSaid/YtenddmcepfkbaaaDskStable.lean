/- The statement on what stays over a failure: its walk. -/
import Derived.Test.YtenddmcepfkbaaaDskSpare
import Derived.Deep.CutRange
import Derived.Deep.DeepCutAuto
namespace Go.Proofs.Ytenddmcepfkbaaa
open Go.RowKit

set_option maxRecDepth 100000 in
set_option maxHeartbeats 2000000 in
theorem lawStable_skip (x0 x y : Int) (l : List Ac) (hn : l.length ≤ 9223372036854775807) (hz : ∀ a ∈ l, acFine a) (ao : Option Addr) (cap : Nat) (l2 : List Ac) (hn2 : l2.length ≤ 9223372036854775807) (hz2 : ∀ a ∈ l2, acFine a) (ao2 : Option Addr) (cap2 : Nat) (hbad : okB l = false ∨ (okB l = true ∧ okB l2 = false)) (w : World) (hl : IsActs w ao l) (hl2 : IsActs w ao2 l2) :
    Calls Try.prog 4 #[.int .u8 x0, .slice ao l.length cap, .slice ao2 l2.length cap2, .int .i64 x, .int .i64 y] w fun e w' => e = .returned (.bool true) ∧ Below w.heap.size w w' := by
  obtain ⟨L, HL⟩ : ∃ L, Hid (L = l.length) := ⟨_, Lib.hid rfl⟩
  obtain ⟨M, HM⟩ : ∃ M, Hid (M = l2.length) := ⟨_, Lib.hid rfl⟩
  have HAc := Lib.hid hl
  have HAc2 := Lib.hid hl2
  have HK : Hid (∀ W, IsActs W ao l → Calls Try.prog 12 #[.slice ao L cap] W fun e w' => e = .returned (.bool (okB l)) ∧ W = w') := Lib.hid fun W h => by
    rw [HL.out]; exact ok_any l hn (fun a ha => (hz a ha).1) ao cap W h
  have HK2 : Hid (∀ W, IsActs W ao2 l2 → Calls Try.prog 12 #[.slice ao2 M cap2] W fun e w' => e = .returned (.bool (okB l2)) ∧ W = w') := Lib.hid fun W h => by
    rw [HM.out]; exact ok_any l2 hn2 (fun a ha => (hz2 a ha).1) ao2 cap2 W h
  rw [← HL.out, ← HM.out]
  clear hn hz hl hn2 hz2 hl2
  go_enter Try.func4, Try.ntmps4
  go_wp2_with fail
  refine (head46_any _).mono ?_
  rintro e v1 ⟨rfl, hb⟩
  have HB := Lib.hid hb
  clear hb
  rcases hbad with h1 | ⟨h1, h2⟩
  · rw [h1] at HK
    go_wp2_with fail
    refine (HK.out _ (HAc.out.grown HB.out)).mono ?_
    rintro e _ ⟨rfl, rfl⟩
    go_wp2
    go_ret
    exact ⟨rfl, HB.out⟩
  · rw [h1] at HK
    rw [h2] at HK2
    go_wp2_with fail
    refine (HK.out _ (HAc.out.grown HB.out)).mono ?_
    rintro e _ ⟨rfl, rfl⟩
    go_wp2_with fail
    refine (HK2.out _ (HAc2.out.grown HB.out)).mono ?_
    rintro e _ ⟨rfl, rfl⟩
    go_wp2
    go_ret
    exact ⟨rfl, HB.out⟩

set_option maxRecDepth 100000 in
set_option maxHeartbeats 16000000 in
theorem lawStable_main (x0 x y : Int) (hx0 : 0 ≤ x0) (hx1 : x0 ≤ 255) (n : Nat) (hnx : 1 + x0 % 12 = (n : Int)) (l : List Ac) (hz : ∀ a ∈ l, acFine a) (ao : Option Addr) (cap : Nat) (hk1 : okB l = true) (l2 : List Ac) (hz2 : ∀ a ∈ l2, acFine a) (ao2 : Option Addr) (cap2 : Nat) (hk2 : okB l2 = true) (w : World) (hl : IsActs w ao l) (hl2 : IsActs w ao2 l2) :
    Calls Try.prog 4 #[.int .u8 x0, .slice ao l.length cap, .slice ao2 l2.length cap2, .int .i64 x, .int .i64 y] w fun e w' => e = .returned (.bool true) ∧ Below w.heap.size w w' := by
  have HN : Hid (1 ≤ n ∧ n ≤ 12) := Lib.hid ⟨by omega, by omega⟩
  obtain ⟨L, HL⟩ : ∃ L, Hid (L = l.length) := ⟨_, Lib.hid rfl⟩
  have HAc := Lib.hid hl
  have HK : Hid (∀ W, IsActs W ao l → Calls Try.prog 12 #[.slice ao L cap] W fun e w' => e = .returned (.bool true) ∧ W = w') := Lib.hid fun W h => by
    have h1 := ok_any l (by have := (okB_iff.1 hk1).2; omega) (fun a ha => (hz a ha).1) ao cap W h
    rw [hk1] at h1
    rw [HL.out]; exact h1
  obtain ⟨M, HM⟩ : ∃ M, Hid (M = l2.length) := ⟨_, Lib.hid rfl⟩
  have HAc2 := Lib.hid hl2
  have HK2 : Hid (∀ W, IsActs W ao2 l2 → Calls Try.prog 12 #[.slice ao2 M cap2] W fun e w' => e = .returned (.bool true) ∧ W = w') := Lib.hid fun W h => by
    have h1 := ok_any l2 (by have := (okB_iff.1 hk2).2; omega) (fun a ha => (hz2 a ha).1) ao2 cap2 W h
    rw [hk2] at h1
    rw [HM.out]; exact h1
  have Hok2 := Lib.hid (okB_iff.1 hk2)
  have hM60 : (M : Int) ≤ 60 := by have := Hok2.out.2; have := HM.out; omega
  have HSz : Hid (∀ W, Calls Try.prog 14 #[.int .u8 x0] W fun e w' => e = .returned (.int .i64 (n : Int)) ∧ W = w') := Lib.hid fun W => by
    have := size_any x0 hx0 hx1 W
    rw [hnx] at this
    exact this
  have Hok := Lib.hid (okB_iff.1 hk1)
  have HZ := Lib.hid hz
  have hL60 : (L : Int) ≤ 60 := by have := Hok.out.2; have := HL.out; omega
  rw [← HL.out, ← HM.out]
  clear hz hl hk1 hx0 hx1 hnx hz2 hl2 hk2
  obtain ⟨i1, hi1, hy0, hy1, hy2⟩ := info_parts info_bool
  go_enter Try.func4, Try.ntmps4
  go_wp2_with fail
  refine (head46_any _).mono ?_
  rintro e v1 ⟨rfl, hb⟩
  have HB := Lib.hid hb
  clear hb
  go_wp2_with fail
  refine (HK.out _ (HAc.out.grown HB.out)).mono ?_
  rintro e _ ⟨rfl, rfl⟩
  go_wp2_with fail
  refine (HK2.out _ (HAc2.out.grown HB.out)).mono ?_
  rintro e _ ⟨rfl, rfl⟩
  go_wp2_with fail
  refine (HSz.out _).mono ?_
  rintro e _ ⟨rfl, rfl⟩
  go_wp2_with fail
  refine (new_any n HN.out.1 (by have := HN.out.2; omega) _).mono ?_
  rintro e v2 ⟨b, rfl, hb, hbn, bs, hbsn, hi⟩
  have HS0 : Hid (St n w (fun _ => False) v2 b bs (Dsk.zero n)) := Lib.hid (St.new (below_step HB.out hb) hi (fun j hj => Nat.le_trans HB.out.size (new_foot hbn hbsn j hj)))
  clear hb hbn hbsn hi
  have HS1 := HS0
  go_wp2
  go_loopw [14] (fun i wr => ∃ j : Nat, j ≤ L ∧ i = .int .i64 j ∧ Hid (St n w (fun _ => False) wr b bs (runD n (Dsk.zero n) (l.take j)))) (fun i _ => L - (intOf i).toNat)
  case atStart => exact ⟨0, by omega, rfl, HS1⟩
  case round =>
    obtain ⟨j, hj, rfl, HS⟩ := hrel
    by_cases hlt : j < L
    · have hjl : j < l.length := by rw [← HL.out]; exact hlt
      have hlt' : (j : Int) < L := by omega
      obtain ⟨bk, off, rfl, hbk, hact⟩ := HAc.out.at hjl
      obtain ⟨a', Ha⟩ : ∃ a, Hid (a = l[j]) := ⟨_, Lib.hid rfl⟩
      rw [← Ha.out] at hact
      obtain ⟨x1, x2, x3, x4, x5, x6⟩ := hact.below HS.out.toBelow hbk
      have HDo := Lib.hid (HS.out.act a' (by rw [Ha.out]; exact Hok.out.1 _ (List.getElem_mem _)) (run_fits (fun c hc => HZ.out c (List.mem_of_mem_take hc)) (zero_fits n)) (by rw [List.length_take]; omega))
      clear hact
      go_wp2_with fail
      refine HDo.out.mono ?_
      rintro e wn ⟨rfl, hs⟩
      have HSn := Lib.hid hs
      clear hs x1 x2 x3 x4 x5 x6
      go_wp2
      go_roundw
      case rel => exact ⟨j + 1, by omega, by go_num, Lib.hid (by rw [runD_take hjl, ← Ha.out]; exact HSn.out)⟩
      case measure => simp [intOf]; omega
    · obtain rfl : L = j := by omega
      obtain ⟨D1, HD1⟩ : ∃ D1, Hid (D1 = runD n (Dsk.zero n) (l.take L)) := ⟨_, Lib.hid rfl⟩
      have HF1 : Hid (fits D1 60) := Lib.hid (by
        rw [HD1.out]
        exact (run_fits (fun c hc => HZ.out c (List.mem_of_mem_take hc)) (zero_fits n)).mono (by rw [List.length_take]; omega))
      rw [← HD1.out] at HS
      obtain ⟨D2, HD2⟩ : ∃ D2, Hid (D2 = Dsk.startD D1) := ⟨_, Lib.hid rfl⟩
      have HF2 : Hid (fits D2 60) := Lib.hid (by rw [HD2.out]; exact start_fits HF1.out)
      have HC2 : Hid (Calm D2) := Lib.hid (by rw [HD2.out]; exact start_calm _)
      go_wp2_with fail
      refine (HS.out.run (D' := D2) (fun pv h => by rw [HD2.out]; exact start_any h)).mono ?_
      rintro e wn ⟨rfl, hs⟩
      replace HS := Lib.hid hs
      clear hs
      obtain ⟨D3, HD3⟩ : ∃ D3, Hid (D3 = Dsk.syncD D2) := ⟨_, Lib.hid rfl⟩
      have HA3 : Hid (D3.pd = [] ∧ Calm D3 ∧ Dsk.syncE D2 = 0) := Lib.hid (by
        have h1 := calm_sync HC2.out
        rw [HD3.out]
        exact ⟨by rw [h1.1], h1.2.2, h1.2.1⟩)
      go_wp2_with fail
      refine (HS.out.run (D' := D3) (fun pv h => by have := sync_any h HF2.out.1; rw [HA3.out.2.2, ← HD3.out] at this; exact this)).mono ?_
      rintro e wn ⟨rfl, hs⟩
      replace HS := Lib.hid hs
      clear hs
      have HF3 : Hid (fits D3 60) := Lib.hid (by rw [HD3.out]; exact sync_fits HF2.out)
      obtain ⟨pv4, hi4, hf4⟩ := HS.out.2
      have HI4 := Lib.hid hi4
      have HF4 : Hid (∀ j, foot b bs pv4 j → w.heap.size ≤ j) := Lib.hid fun j hj => (hf4 j hj).elim (fun h => h.elim) id
      have HBw := Lib.hid HS.out.toBelow
      have HCt := Lib.hid (HS.out.contents HA3.out.2.1.1)
      clear hi4 hf4
      go_wp2_with fail
      refine HCt.out.mono ?_
      rintro e wa ⟨g1, cap1, rfl, hb, hg1, hr1⟩
      have HBa := Lib.hid (below_step HBw.out hb)
      have HI5 := Lib.hid (HI4.out.grown hb)
      have HG1 : Hid (¬ foot b bs pv4 g1) := Lib.hid fun hk => by have := foot_lt HI4.out hk; omega
      have HR1 := Lib.hid hr1
      have hn0 : 0 ≤ (n : Int) := by omega
      have hn12 : (n : Int) ≤ 12 := by have := HN.out.2; omega
      have hnn : n ≤ 12 := HN.out.2
      clear hb hg1 hr1
      go_wp2_with (at_make; refine wpList_make_full _ rfl _ _ 42 rfl wa.heap.size 4 i1 (.bool false) 1 Try.underlying42 hi1 hy0 hy1 .i64 .i64 _ _ n rfl rfl rfl rfl (by rw [hy2]; omega) (by unfold maxLen; omega) (Nat.le_refl _) ?_; intro wm hown hgr)
      have hb : Below wa.heap.size wa wm := ⟨hgr.os, hgr.tape, hgr.output, hgr.size, fun k hk => hgr.block k hk (by simp)⟩
      have hbr : BRow wm wa.heap.size (List.replicate n false) := by
        have hls : wa.heap.size < wm.heap.size := (hown.lt wa.heap.size rfl).2
        refine ⟨hls, ?_⟩
        intro j hj
        rw [List.length_replicate] at hj
        have e : (madeCells (Value.bool false).cells (n * 1)).toList = List.replicate n (Value.bool false) := by rw [Nat.mul_one]; exact toList_madeCells_one _ _
        rw [e] at hown
        refine ⟨?_, hown.frozenAt _⟩
        rw [hown.cellAt j (by omega), List.getElem?_replicate, if_pos hj, List.getElem_replicate]
      have HH0 : Hid (Held n w wm b bs D3 g1 (seenL D3 n) wa.heap.size (List.replicate n false)) := Lib.hid ⟨below_step HBa.out hb, ⟨pv4, HI5.out.grown hb, fun k hk => ⟨HF4.out k hk, fun e => HG1.out (e ▸ hk), fun e => by have := foot_lt HI5.out hk; omega⟩⟩, HR1.out.below hb, hbr, fun e => by have := HR1.out.1; omega, HBa.out.size⟩
      have HM0 : Hid (Marks n D3.st D3 (List.replicate n false)) := Lib.hid (Marks.zero HA3.out.2.1 HA3.out.1 rfl)
      obtain ⟨gm, Hgm⟩ : ∃ gm, Hid (gm = wa.heap.size) := ⟨_, Lib.hid rfl⟩
      rw [← Hgm.out] at HH0 ⊢
      clear hown hgr hb hbr
      go_wp2
      go_loopw [18] (fun i wr => ∃ j : Nat, j ≤ M ∧ i = .int .i64 j ∧ Hid (∃ D m, Held n w wr b bs D g1 (seenL D3 n) gm m ∧ Marks n D3.st D m ∧ fits D (60 + j))) (fun i _ => M - (intOf i).toNat)
      case atStart => exact ⟨0, by omega, rfl, Lib.hid ⟨_, _, HH0.out, HM0.out, HF3.out⟩⟩
      case round =>
        obtain ⟨j, hj, rfl, HE⟩ := hrel
        by_cases hlt : j < M
        · obtain ⟨D, m, hH, hMk, hFt⟩ := HE.out
          have HH := Lib.hid hH
          have HMk := Lib.hid hMk
          have HFt := Lib.hid hFt
          clear hH hMk hFt HE
          have hjl : j < l2.length := by rw [← HM.out]; exact hlt
          have hlt' : (j : Int) < M := by omega
          obtain ⟨bk, off, rfl, hbk, hact⟩ := HAc2.out.at hjl
          obtain ⟨a', Ha⟩ : ∃ a, Hid (a = l2[j]) := ⟨_, Lib.hid rfl⟩
          rw [← Ha.out] at hact
          have hts : a'.text.size ≤ 100 := by rw [Ha.out]; exact Hok2.out.1 _ (List.getElem_mem _)
          obtain ⟨k, s, y', t, odd, f⟩ := a'
          obtain ⟨T, HT⟩ : ∃ T, Hid (T = textV odd t) := ⟨_, Lib.hid rfl⟩
          have HXt : Hid (∀ W, Calls Try.prog 24 #[.agg #[.int .i64 k, .int .i64 s, .int .i64 y', .string t, .bool odd, .int .i64 f]] W fun e w' => e = .returned (.string T) ∧ Below W.heap.size W w') := Lib.hid fun W => by
            rw [HT.out]; exact text_any ⟨k, s, y', t, odd, f⟩ hts W
          have HTs : Hid (T.size ≤ 9223372036854775807) := Lib.hid (by rw [HT.out]; exact textV_size odd t hts)
          have HAt := Lib.hid (And.intro hact hbk)
          obtain ⟨x1, x2, x3, x4, x5, x6⟩ := hact.below HH.out.1 hbk
          have hlt1 : bk < wr.heap.size := Nat.lt_of_lt_of_le hbk HH.out.1.size
          have p1 : ∀ X : Grown wr, X.w.cell? ⟨bk, off + j * 6, none⟩ = some (.int .i64 k) := fun X => by rw [X.cell hlt1, x1]
          have p2 : ∀ X : Grown wr, X.w.cell? ⟨bk, off + j * 6 + 1, none⟩ = some (.int .i64 s) := fun X => by rw [X.cell hlt1, x2]
          have p3 : ∀ X : Grown wr, X.w.cell? ⟨bk, off + j * 6 + 2, none⟩ = some (.int .i64 y') := fun X => by rw [X.cell hlt1, x3]
          have p4 : ∀ X : Grown wr, X.w.cell? ⟨bk, off + j * 6 + 3, none⟩ = some (.string t) := fun X => by rw [X.cell hlt1, x4]
          have p5 : ∀ X : Grown wr, X.w.cell? ⟨bk, off + j * 6 + 4, none⟩ = some (.bool odd) := fun X => by rw [X.cell hlt1, x5]
          have p6 : ∀ X : Grown wr, X.w.cell? ⟨bk, off + j * 6 + 5, none⟩ = some (.int .i64 f) := fun X => by rw [X.cell hlt1, x6]
          clear x1 x2 x3 x4 x5 x6 hact hbk hts
          go_wp2_with fail
          refine wp_region_grown_tail 11 (by kernel_rfl) (by kernel_rfl) ?_
          simp only [List.take_succ_cons, List.take_zero, List.drop_succ_cons, List.drop_zero]
          repeat (go_big_quiet_step ((go_at_call 24; exact grown_of (HXt.out _))))
          refine wpQuiet_nil ?_
          intro Z
          have HHz := Lib.hid (HH.out.below Z.below)
          clear p1 p2 p3 p4 p5 p6
          have hcw := calm_write (n := n) HMk.out.1 s T
          have HCw := Lib.hid hcw
          have HFw := Lib.hid (write_fits (n := n) HFt.out s T)
          cases hv : (Dsk.has n s && (T.size == 64))
          · rw [hv] at hcw
            simp only [Bool.false_eq_true, if_false] at hcw
            have HE2 := Lib.hid hcw
            clear hcw hv
            go_wp2_with fail
            refine (HHz.out.run (D' := D) (fun pv h => by have := write_any h s T HTs.out (by have := HFt.out.2; omega) HFt.out.1; rw [HE2.out.2.2.1, HE2.out.2.2.2] at this; exact this)).mono ?_
            rintro e wn ⟨rfl, hs⟩
            have HHn := Lib.hid hs
            clear hs
            go_wp2
            go_roundw
            case rel => exact ⟨j + 1, by omega, by go_num, Lib.hid ⟨D, m, HHn.out, HMk.out, HFt.out.mono (by omega)⟩⟩
            case measure => simp [intOf]; omega
          · rw [hv] at hcw
            simp only [if_true] at hcw
            have HE2 := Lib.hid hcw
            rw [Bool.and_eq_true] at hv
            have hsn := Dsk.has_iff.1 hv.1
            obtain ⟨sN, rfl⟩ : ∃ q : Nat, s = q := ⟨s.toNat, by omega⟩
            have hs1 : ¬ (sN : Int) < 0 := by omega
            have hs2 : ¬ (n : Int) ≤ (sN : Int) := by omega
            have hs3 : (sN : Int) < n := hsn.2
            have hs4 : sN < n := by omega
            clear hcw hv hsn
            go_wp2_with fail
            refine (HHz.out.run (D' := Dsk.added D sN T) (fun pv h => by have := write_any h sN T HTs.out (by have := HFt.out.2; omega) HFt.out.1; rw [HE2.out.2.2.1, HE2.out.2.2.2] at this; exact this)).mono ?_
            rintro e wn ⟨rfl, hs⟩
            have HHn := Lib.hid hs
            clear hs
            obtain ⟨x1, x2, x3, x4, x5, x6⟩ := HAt.out.1.below HHn.out.1 HAt.out.2
            have hml : sN < m.length := by rw [HMk.out.2.2.1]; exact hs4
            obtain ⟨q1, q2⟩ := HHn.out.2.2.2.1.2 sN hml
            have HHm := Lib.hid (HHn.out.mark hml)
            have HM2 := Lib.hid (HMk.out.add hs4 T)
            obtain ⟨old, Hold⟩ : ∃ q, Hid (q = m[sN]) := ⟨_, Lib.hid rfl⟩
            rw [← Hold.out] at q1
            go_wp2
            go_roundw
            case rel => exact ⟨j + 1, by omega, by go_num, Lib.hid ⟨_, _, HHm.out, HM2.out, by have := HFw.out; rw [HE2.out.2.2.1] at this; exact this.mono (by omega)⟩⟩
            case measure => simp [intOf]; omega
        · obtain rfl : M = j := by omega
          obtain ⟨D, m, hH, hMk, hFt⟩ := HE.out
          have HH := Lib.hid hH
          have HMk := Lib.hid hMk
          clear hH hMk hFt HE
          obtain ⟨D4, HD4⟩ : ∃ D4, Hid (D4 = Dsk.fail D x y) := ⟨_, Lib.hid rfl⟩
          obtain ⟨D5, HD5⟩ : ∃ D5, Hid (D5 = Dsk.startD D4) := ⟨_, Lib.hid rfl⟩
          have HC5 : Hid (Calm D5) := Lib.hid (by rw [HD5.out]; exact start_calm _)
          have HSn : Hid (∀ j, m[j]? = some false → Dsk.seen D5 j = Dsk.seen D3 j) := Lib.hid fun j hj => by
            rw [HMk.out.seen HH.out.ok x y (by rw [HD5.out, HD4.out]) hj, seen_calm HA3.out.1]
          go_wp2_with fail
          refine (HH.out.run (D' := D4) (fun pv h => by rw [HD4.out]; exact fail_any h x y)).mono ?_
          rintro e wn ⟨rfl, hs⟩
          replace HH := Lib.hid hs
          clear hs
          go_wp2_with fail
          refine (HH.out.run (D' := D5) (fun pv h => by rw [HD5.out]; exact start_any h)).mono ?_
          rintro e wn ⟨rfl, hs⟩
          replace HH := Lib.hid hs
          clear hs
          go_wp2_with fail
          refine (HH.out.contents HC5.out.1).mono ?_
          rintro e wc ⟨g2, capb, rfl, hb, hg2, hr2⟩
          have HR2 := Lib.hid hr2
          replace HH := Lib.hid (HH.out.below hb)
          clear hb hg2 hr2
          go_wp2
          go_loopw [22] (fun i wr => ∃ j : Nat, j ≤ n ∧ i = .int .i64 j ∧ Hid (Below wc.heap.size wc wr)) (fun i _ => n - (intOf i).toNat)
          case atStart => exact ⟨0, by omega, rfl, Lib.hid (Below.refl _ _)⟩
          case round =>
            obtain ⟨j', hj', rfl, HBr⟩ := hrel
            replace HR2 := Lib.hid (HR2.out.below HBr.out)
            replace HH := Lib.hid (HH.out.below HBr.out)
            by_cases hlt : j' < n
            · have hlt' : (j' : Int) < n := by omega
              have hjm : j' < m.length := by rw [HMk.out.2.2.1]; exact hlt
              have hr1 := (HH.out.2.2.1.2 j' (by rw [seenL_len]; exact hlt)).1
              have hr2 := (HR2.out.2 j' (by rw [seenL_len]; exact hlt)).1
              have hr3 := (HH.out.2.2.2.1.2 j' hjm).1
              rw [seenL_get] at hr1 hr2
              have HSj := Lib.hid (HSn.out j')
              rw [List.getElem?_eq_getElem hjm] at HSj
              obtain ⟨mb, Hmb⟩ : ∃ x, Hid (x = m[j']) := ⟨_, Lib.hid rfl⟩
              rw [← Hmb.out] at hr3 HSj
              obtain ⟨S, HS5⟩ : ∃ x, Hid (x = Dsk.seen D3 j') := ⟨_, Lib.hid rfl⟩
              obtain ⟨S', HS6⟩ : ∃ x, Hid (x = Dsk.seen D5 j') := ⟨_, Lib.hid rfl⟩
              rw [← HS5.out] at hr1
              rw [← HS6.out] at hr2
              rw [← HS5.out, ← HS6.out] at HSj
              have l1 := lt_of_cell hr1
              have l2 := lt_of_cell hr2
              have l3 := lt_of_cell hr3
              have p1 : ∀ Z : Grown wr, Z.w.cell? ⟨g1, j', none⟩ = some (.string S) := fun Z => by rw [Z.cell l1, hr1]
              have p2 : ∀ Z : Grown wr, Z.w.cell? ⟨g2, j', none⟩ = some (.string S') := fun Z => by rw [Z.cell l2, hr2]
              have p3 : ∀ Z : Grown wr, Z.w.cell? ⟨gm, j', none⟩ = some (.bool mb) := fun Z => by rw [Z.cell l3, hr3]
              clear hr1 hr2 hr3 l1 l2 l3
              cases mb
              · have hSS := HSj.out rfl
                subst hSS
                have hq : (S'.toList == S'.toList) = true := by simp
                go_wp2_with fail
                refine wp_region_grown (by kernel_rfl) (by kernel_rfl) ?_
                repeat (go_big_quiet_step (fail))
                refine wpQuiet_nil ?_
                rintro _ ⟨Z, rfl⟩
                go_wp2
                go_roundw
                case rel => exact ⟨j' + 1, by omega, by go_num, Lib.hid (below_step HBr.out Z.below)⟩
                case measure => simp [intOf]; omega
              · clear HSj
                go_wp2_with fail
                refine wp_region_grown (by kernel_rfl) (by kernel_rfl) ?_
                repeat (go_big_quiet_step (fail))
                refine wpQuiet_nil ?_
                rintro _ ⟨Z, rfl⟩
                go_wp2
                go_roundw
                case rel => exact ⟨j' + 1, by omega, by go_num, Lib.hid (below_step HBr.out Z.below)⟩
                case measure => simp [intOf]; omega
            · obtain rfl : n = j' := by omega
              go_wp2
              go_ret
              exact ⟨rfl, HH.out.1⟩

theorem lawStable_any (x0 : Int) (hx0 : 0 ≤ x0) (hx1 : x0 ≤ 255) (l : List Ac) (hn : l.length ≤ 9223372036854775807) (hz : ∀ a ∈ l, acFine a) (ao : Option Addr) (cap : Nat) (l2 : List Ac) (hn2 : l2.length ≤ 9223372036854775807) (hz2 : ∀ a ∈ l2, acFine a) (ao2 : Option Addr) (cap2 : Nat) (x y : Int) (w : World) (hl : IsActs w ao l) (hl2 : IsActs w ao2 l2) :
    Calls Try.prog 4 #[.int .u8 x0, .slice ao l.length cap, .slice ao2 l2.length cap2, .int .i64 x, .int .i64 y] w fun e w' => e = .returned (.bool true) ∧ Below w.heap.size w w' := by
  cases h1 : okB l
  · exact lawStable_skip x0 x y l hn hz ao cap l2 hn2 hz2 ao2 cap2 (Or.inl h1) w hl hl2
  · cases h2 : okB l2
    · exact lawStable_skip x0 x y l hn hz ao cap l2 hn2 hz2 ao2 cap2 (Or.inr ⟨h1, h2⟩) w hl hl2
    · obtain ⟨n, hn3⟩ : ∃ n : Nat, 1 + x0 % 12 = n := ⟨(1 + x0 % 12).toNat, by omega⟩
      exact lawStable_main x0 x y hx0 hx1 n hn3 l hz ao cap h1 l2 hz2 ao2 cap2 h2 w hl hl2

end Go.Proofs.Ytenddmcepfkbaaa
