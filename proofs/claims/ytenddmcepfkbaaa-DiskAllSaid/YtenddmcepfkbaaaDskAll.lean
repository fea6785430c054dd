/- The statement on failures with all writes: its walk. -/
import Derived.Test.YtenddmcepfkbaaaDskTwo
namespace Go.Proofs.Ytenddmcepfkbaaa
open Go.RowKit

set_option maxRecDepth 100000 in
set_option maxHeartbeats 2000000 in
theorem lawAll_skip (x0 p q : Int) (l : List Ac) (hn : l.length ≤ 9223372036854775807) (hz : ∀ a ∈ l, acFine a) (ao : Option Addr) (cap : Nat) (hbad : okB l = false) (w : World) (hl : IsActs w ao l) :
    Calls Try.prog 7 #[.int .u8 x0, .slice ao l.length cap, .int .i64 p, .int .i64 q] w fun e w' => e = .returned (.bool true) ∧ Below w.heap.size w w' := by
  obtain ⟨L, HL⟩ : ∃ L, Hid (L = l.length) := ⟨_, Lib.hid rfl⟩
  have HAc := Lib.hid hl
  have HK : Hid (∀ W, IsActs W ao l → Calls Try.prog 12 #[.slice ao L cap] W fun e w' => e = .returned (.bool false) ∧ W = w') := Lib.hid fun W h => by
    have h1 := ok_any l hn (fun a ha => (hz a ha).1) ao cap W h
    rw [hbad] at h1
    rw [HL.out]; exact h1
  rw [← HL.out]
  clear hn hz hl hbad
  go_enter Try.func7, Try.ntmps7
  go_wp2_with fail
  refine (head46_any _).mono ?_
  rintro e v1 ⟨rfl, hb⟩
  have HB := Lib.hid hb
  clear hb
  go_wp2_with fail
  refine (HK.out _ (HAc.out.grown HB.out)).mono ?_
  rintro e _ ⟨rfl, rfl⟩
  go_wp2
  go_ret
  exact ⟨rfl, HB.out⟩

set_option maxRecDepth 100000 in
set_option maxHeartbeats 8000000 in
theorem lawAll_main (x0 p q : Int) (hx0 : 0 ≤ x0) (hx1 : x0 ≤ 255) (n : Nat) (hnx : 1 + x0 % 12 = (n : Int)) (l : List Ac) (hz : ∀ a ∈ l, acFine a) (ao : Option Addr) (cap : Nat) (hk1 : okB l = true) (w : World) (hl : IsActs w ao l) :
    Calls Try.prog 7 #[.int .u8 x0, .slice ao l.length cap, .int .i64 p, .int .i64 q] w fun e w' => e = .returned (.bool true) ∧ Below w.heap.size w w' := by
  have HN : Hid (1 ≤ n ∧ n ≤ 12) := Lib.hid ⟨by omega, by omega⟩
  obtain ⟨L, HL⟩ : ∃ L, Hid (L = l.length) := ⟨_, Lib.hid rfl⟩
  have HAc := Lib.hid hl
  have HK : Hid (∀ W, IsActs W ao l → Calls Try.prog 12 #[.slice ao L cap] W fun e w' => e = .returned (.bool true) ∧ W = w') := Lib.hid fun W h => by
    have h1 := ok_any l (by have := (okB_iff.1 hk1).2; omega) (fun a ha => (hz a ha).1) ao cap W h
    rw [hk1] at h1
    rw [HL.out]; exact h1
  have HSz : Hid (∀ W, Calls Try.prog 14 #[.int .u8 x0] W fun e w' => e = .returned (.int .i64 (n : Int)) ∧ W = w') := Lib.hid fun W => by
    have := size_any x0 hx0 hx1 W
    rw [hnx] at this
    exact this
  have Hok := Lib.hid (okB_iff.1 hk1)
  have HZ := Lib.hid hz
  have hL60 : (L : Int) ≤ 60 := by have := Hok.out.2; have := HL.out; omega
  have HSame : Hid (∀ (W : World) (ss tt : List ByteArray) (g g' c c' : Nat), ss.length = n → tt.length = n → SRow W g ss → SRow W g' tt → Calls Try.prog 27 #[.slice (some ⟨g, 0, none⟩) n c, .slice (some ⟨g', 0, none⟩) n c'] W fun e w' => e = .returned (.bool (decide (ss = tt))) ∧ Below W.heap.size W w') := Lib.hid fun W ss tt g g' c c' h1 h2 h3 h4 => same_rows h1 h2 (by omega) h3 h4
  rw [← HL.out]
  clear hz hl hk1 hx0 hx1 hnx
  go_enter Try.func7, Try.ntmps7
  go_wp2_with fail
  refine (head46_any _).mono ?_
  rintro e v1 ⟨rfl, hb⟩
  have HB := Lib.hid hb
  clear hb
  go_wp2_with fail
  refine (HK.out _ (HAc.out.grown HB.out)).mono ?_
  rintro e _ ⟨rfl, rfl⟩
  go_wp2_with fail
  refine (HSz.out _).mono ?_
  rintro e _ ⟨rfl, rfl⟩
  go_wp2_with fail
  refine (new_any n HN.out.1 (by have := HN.out.2; omega) _).mono ?_
  rintro e v2 ⟨b, rfl, hb, hbn, bs, hbsn, hi⟩
  have HS0 : Hid (St n w (fun _ => False) v2 b bs (Dsk.zero n)) := Lib.hid (St.new (below_step HB.out hb) hi (fun j hj => Nat.le_trans HB.out.size (new_foot hbn hbsn j hj)))
  clear hb hbn hbsn hi
  go_wp2_with fail
  refine (new_any n HN.out.1 (by have := HN.out.2; omega) _).mono ?_
  rintro e v3 ⟨c, rfl, hb, hbn, cs, hbsn, hi⟩
  have HS1 : Hid (St2 n w (fun _ => False) v3 b bs (Dsk.zero n) c cs (Dsk.zero n)) := Lib.hid (St2.new HS0.out hb hi (new_foot hbn hbsn))
  clear hb hbn hbsn hi
  go_wp2
  go_loopw [13] (fun i wr => ∃ j : Nat, j ≤ L ∧ i = .int .i64 j ∧ Hid (St2 n w (fun _ => False) wr b bs (runD n (Dsk.zero n) (l.take j)) c cs (runD n (Dsk.zero n) (l.take j)))) (fun i _ => L - (intOf i).toNat)
  case atStart => exact ⟨0, by omega, rfl, HS1⟩
  case round =>
    obtain ⟨j, hj, rfl, HS⟩ := hrel
    by_cases hlt : j < L
    · have hjl : j < l.length := by rw [← HL.out]; exact hlt
      have hlt' : (j : Int) < L := by omega
      obtain ⟨bk, off, rfl, hbk, hact⟩ := HAc.out.at hjl
      obtain ⟨a, Ha⟩ : ∃ a, Hid (a = l[j]) := ⟨_, Lib.hid rfl⟩
      rw [← Ha.out] at hact
      have HAct := Lib.hid hact
      have hat : a.text.size ≤ 100 := by rw [Ha.out]; exact Hok.out.1 _ (List.getElem_mem _)
      have HTt := Lib.hid hat
      have HFt : Hid (fits (runD n (Dsk.zero n) (l.take j)) (l.take j).length ∧ (l.take j).length ≤ 1000) := Lib.hid ⟨run_fits (fun c hc => HZ.out c (List.mem_of_mem_take hc)) (zero_fits n), by rw [List.length_take]; omega⟩
      obtain ⟨x1, x2, x3, x4, x5, x6⟩ := HAct.out.below HS.out.first.toBelow hbk
      clear hact hat
      go_wp2_with fail
      refine (HS.out.act a HTt.out HFt.out.1 HFt.out.2).mono ?_
      rintro e wn ⟨rfl, hs⟩
      have HSn := Lib.hid hs
      clear hs x1 x2 x3 x4 x5 x6
      obtain ⟨x1, x2, x3, x4, x5, x6⟩ := HAct.out.below HSn.out.first.toBelow hbk
      go_wp2_with fail
      refine (HSn.out.swap.act a HTt.out HFt.out.1 HFt.out.2).mono ?_
      rintro e wm ⟨rfl, hs⟩
      have HSm := Lib.hid hs.swap
      clear hs x1 x2 x3 x4 x5 x6
      go_wp2
      go_roundw
      case rel => exact ⟨j + 1, by omega, by go_num, Lib.hid (by rw [runD_take hjl, ← Ha.out]; exact HSm.out)⟩
      case measure => simp [intOf]; omega
    · obtain rfl : L = j := by omega
      obtain ⟨D1, HD1⟩ : ∃ D1, Hid (D1 = runD n (Dsk.zero n) (l.take L)) := ⟨_, Lib.hid rfl⟩
      have HF1 : Hid (fits D1 60) := Lib.hid (by
        rw [HD1.out]
        exact (run_fits (fun c hc => HZ.out c (List.mem_of_mem_take hc)) (zero_fits n)).mono (by rw [List.length_take]; omega))
      rw [← HD1.out] at HS
      obtain ⟨D2, HD2⟩ : ∃ D2, Hid (D2 = Dsk.startD D1) := ⟨_, Lib.hid rfl⟩
      have HF2 : Hid (fits D2 60) := Lib.hid (by rw [HD2.out]; exact start_fits HF1.out)
      have HC2 : Hid (Calm D2) := Lib.hid (by rw [HD2.out]; exact start_calm _)
      obtain ⟨D3, HD3⟩ : ∃ D3, Hid (D3 = Dsk.fail D2 60 p) := ⟨_, Lib.hid rfl⟩
      have HA3 : Hid (D3.st = Dsk.settle D2.st D2.pd ∧ D3.pd = [] ∧ D3.off = true) := Lib.hid (by rw [HD3.out]; exact fail_all HC2.out.1 HF2.out.2 p)
      obtain ⟨E3, HE3⟩ : ∃ D3, Hid (D3 = Dsk.syncD D2) := ⟨_, Lib.hid rfl⟩
      have HA4 : Hid (E3.st = Dsk.settle D2.st D2.pd ∧ E3.pd = [] ∧ Calm E3 ∧ Dsk.syncE D2 = 0) := Lib.hid (by
        have h1 := calm_sync HC2.out
        rw [HE3.out]
        exact ⟨by rw [h1.1], by rw [h1.1], h1.2.2, h1.2.1⟩)
      obtain ⟨E4, HE4⟩ : ∃ D3, Hid (D3 = Dsk.fail E3 0 p) := ⟨_, Lib.hid rfl⟩
      have HA5 : Hid (E4.st = E3.st ∧ E4.pd = []) := Lib.hid (by rw [HE4.out]; exact fail_clean HA4.out.2.2.1.1 HA4.out.2.1 0 p)
      go_wp2_with fail
      refine (HS.out.run (D' := D2) (fun pv h => by rw [HD2.out]; exact start_any h)).mono ?_
      rintro e wn ⟨rfl, hs⟩
      replace HS := Lib.hid hs
      clear hs
      go_wp2_with fail
      refine (HS.out.run2 (E' := D2) (fun pv h => by rw [HD2.out]; exact start_any h)).mono ?_
      rintro e wn ⟨rfl, hs⟩
      replace HS := Lib.hid hs
      clear hs
      go_wp2_with fail
      refine (HS.out.run (D' := D3) (fun pv h => by rw [HD3.out]; exact fail_any h 60 p)).mono ?_
      rintro e wn ⟨rfl, hs⟩
      replace HS := Lib.hid hs
      clear hs
      go_wp2_with fail
      refine (HS.out.run (D' := D3) (fun pv h => by have := fail_any h q p; rw [fail_again HA3.out.2.2] at this; exact this)).mono ?_
      rintro e wn ⟨rfl, hs⟩
      replace HS := Lib.hid hs
      clear hs
      go_wp2_with fail
      refine (HS.out.run2 (E' := E3) (fun pv h => by have := sync_any h HF2.out.1; rw [HA4.out.2.2.2, ← HE3.out] at this; exact this)).mono ?_
      rintro e wn ⟨rfl, hs⟩
      replace HS := Lib.hid hs
      clear hs
      go_wp2_with fail
      refine (HS.out.run2 (E' := E4) (fun pv h => by rw [HE4.out]; exact fail_any h 0 p)).mono ?_
      rintro e wn ⟨rfl, hs⟩
      replace HS := Lib.hid hs
      clear hs
      go_wp2_with fail
      refine (HS.out.run (D' := Dsk.startD D3) (fun pv h => start_any h)).mono ?_
      rintro e wn ⟨rfl, hs⟩
      replace HS := Lib.hid hs
      clear hs
      go_wp2_with fail
      refine (HS.out.run2 (E' := Dsk.startD E4) (fun pv h => start_any h)).mono ?_
      rintro e wn ⟨rfl, hs⟩
      replace HS := Lib.hid hs
      clear hs
      go_wp2_with fail
      refine (HS.out.run (D' := Dsk.startD (Dsk.startD D3)) (fun pv h => start_any h)).mono ?_
      rintro e wn ⟨rfl, hs⟩
      replace HS := Lib.hid hs
      clear hs
      have HEq : Hid (seenL (Dsk.startD (Dsk.startD D3)) n = seenL (Dsk.startD E4) n) := Lib.hid (seenL_same n (by show D3.st = E4.st; rw [HA3.out.1, HA5.out.1, HA4.out.1]) (by show D3.pd = E4.pd; rw [HA3.out.2.1, HA5.out.2]))
      go_wp2_with fail
      refine (HS.out.first.contents rfl).mono ?_
      rintro e wc ⟨g2, cap2, rfl, hb, hg2, hr2⟩
      replace HS := Lib.hid (HS.out.below hb)
      have HR2 := Lib.hid hr2
      clear hb hg2 hr2
      go_wp2_with fail
      refine (HS.out.swap.first.contents rfl).mono ?_
      rintro e wd ⟨g3, cap3, rfl, hb, hg3, hr3⟩
      replace HS := Lib.hid (HS.out.below hb)
      have HR3 := Lib.hid hr3
      replace HR2 := Lib.hid (HR2.out.below hb)
      clear hb hg3 hr3
      go_wp2_with fail
      refine (HSame.out _ _ _ _ _ _ _ (seenL_len _ _) (seenL_len _ _) HR2.out HR3.out).mono ?_
      rintro e we ⟨rfl, hb⟩
      rw [decide_eq_true HEq.out]
      replace HS := Lib.hid (HS.out.below hb)
      clear hb
      go_wp2
      go_ret
      exact ⟨rfl, HS.out.first.toBelow⟩

theorem lawAll_any (x0 : Int) (hx0 : 0 ≤ x0) (hx1 : x0 ≤ 255) (l : List Ac) (hn : l.length ≤ 9223372036854775807) (hz : ∀ a ∈ l, acFine a) (ao : Option Addr) (cap : Nat) (p q : Int) (w : World) (hl : IsActs w ao l) :
    Calls Try.prog 7 #[.int .u8 x0, .slice ao l.length cap, .int .i64 p, .int .i64 q] w fun e w' => e = .returned (.bool true) ∧ Below w.heap.size w w' := by
  cases h1 : okB l
  · exact lawAll_skip x0 p q l hn hz ao cap h1 w hl
  · obtain ⟨n, hn2⟩ : ∃ n : Nat, 1 + x0 % 12 = n := ⟨(1 + x0 % 12).toNat, by omega⟩
    exact lawAll_main x0 p q hx0 hx1 n hn2 l hz ao cap h1 w hl

end Go.Proofs.Ytenddmcepfkbaaa
