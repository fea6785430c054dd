/- The statement on bytes that rot: its walk. -/
import Derived.Test.YtenddmcepfkbaaaDskTwo
import Derived.Deep.CutRange
import Derived.Deep.DeepCutAuto
namespace Go.Proofs.Ytenddmcepfkbaaa
open Go.RowKit

theorem rotAt_len (st : List UInt8) (i : Nat) (m : Int) : (Dsk.rotAt st i m).length = st.length := by unfold Dsk.rotAt; rw [List.length_set]
theorem rotAt_get (st : List UInt8) (i : Nat) (m : Int) (j : Nat) (h : j < st.length) : (Dsk.rotAt st i m)[j]'(by rw [rotAt_len]; exact h) = if i = j then st[j] ^^^ UInt8.ofNat m.toNat else st[j] := by
  unfold Dsk.rotAt
  rw [List.getElem_set]
  by_cases e : i = j
  · subst e
    rw [if_pos rfl, if_pos rfl, List.getElem?_eq_getElem h]
    rfl
  · rw [if_neg e, if_neg e]
theorem rotAt_twice (st : List UInt8) (i : Nat) (m : Int) : Dsk.rotAt (Dsk.rotAt st i m) i m = st := by
  apply List.ext_getElem (by rw [rotAt_len, rotAt_len])
  intro j h1 h2
  rw [rotAt_get _ _ _ _ (by rw [rotAt_len]; exact h2), rotAt_get _ _ _ _ h2]
  by_cases e : i = j
  · rw [if_pos e, if_pos e, UInt8.xor_assoc, UInt8.xor_self, UInt8.xor_zero]
  · rw [if_neg e, if_neg e]
theorem rot_f {n : Nat} {D : Dsk.Dk} {s a m : Int} (h : Dsk.rotB n s a m = false) : Dsk.rotD n D s a m = D := by unfold Dsk.rotD; rw [h]; rfl
theorem rot_t {n : Nat} {D : Dsk.Dk} {s a m : Int} (h : Dsk.rotB n s a m = true) : Dsk.rotD n D s a m = { D with st := Dsk.rotAt D.st (64 * s.toNat + a.toNat) m } := by unfold Dsk.rotD; rw [h]; rfl
theorem rot_keeps {n : Nat} {D : Dsk.Dk} {s a m : Int} (hl : D.st.length = 64 * n) (ho : D.off = false) (hp : D.pd = []) :
    (Dsk.rotD n D s a m).off = false ∧ (Dsk.rotD n (Dsk.rotD n D s a m) s a m).off = false ∧ (Dsk.rotD n D s a m).pd = [] ∧ (Dsk.rotD n (Dsk.rotD n D s a m) s a m).pd = [] ∧ (Dsk.rotD n (Dsk.rotD n D s a m) s a m).st = D.st := by
  cases hr : Dsk.rotB n s a m
  · rw [rot_f hr, rot_f hr]
    exact ⟨ho, ho, hp, hp, rfl⟩
  · rw [rot_t hr, rot_t hr]
    exact ⟨ho, ho, hp, hp, rotAt_twice _ _ _⟩

theorem byte_get (st : List UInt8) (i k : Nat) (h : k < (⟨(Dsk.bytes st i).toArray⟩ : ByteArray).size) (h2 : 64 * i + k < st.length) : (⟨(Dsk.bytes st i).toArray⟩ : ByteArray)[k] = st[64 * i + k] := by
  show (Dsk.bytes st i).toArray[k]'h = _
  simp [Dsk.bytes]
/-- What one place of both contents shows. -/
theorem rot_xor {n : Nat} {D E : Dsk.Dk} {s a m : Int} (hl : D.st.length = 64 * n) (hE : E = Dsk.rotD n D s a m) {i k : Nat} (hi : i < n) (hk : k < 64) (h1 : k < (⟨(Dsk.bytes D.st i).toArray⟩ : ByteArray).size) (h2 : k < (⟨(Dsk.bytes E.st i).toArray⟩ : ByteArray).size) :
    (((⟨(Dsk.bytes D.st i).toArray⟩ : ByteArray)[k]).toNat ^^^ ((⟨(Dsk.bytes E.st i).toArray⟩ : ByteArray)[k]).toNat : Nat) = if Dsk.rotB n s a m = true ∧ (i : Int) = s ∧ (k : Int) = a then m.toNat else 0 := by
  subst hE
  have hlt : 64 * i + k < D.st.length := by omega
  rw [byte_get _ _ _ h1 hlt]
  cases hr : Dsk.rotB n s a m
  · have e := rot_f (D := D) hr
    rw [byte_get _ _ _ h2 (by rw [e]; exact hlt), if_neg (by simp)]
    have e2 : (Dsk.rotD n D s a m).st[64 * i + k]'(by rw [e]; exact hlt) = D.st[64 * i + k] := by simp only [e]
    rw [e2, Nat.xor_self]
  · have e := rot_t (D := D) hr
    obtain ⟨⟨b1, b2⟩, ⟨b3, b4⟩, b5, b6⟩ := Dsk.rotB_iff.1 hr
    have hlen : (Dsk.rotD n D s a m).st.length = D.st.length := by rw [e]; exact rotAt_len _ _ _
    rw [byte_get _ _ _ h2 (by rw [hlen]; exact hlt)]
    have e2 : (Dsk.rotD n D s a m).st[64 * i + k]'(by rw [hlen]; exact hlt) = if 64 * s.toNat + a.toNat = 64 * i + k then D.st[64 * i + k] ^^^ UInt8.ofNat m.toNat else D.st[64 * i + k] := by
      simp only [e]
      exact rotAt_get _ _ _ _ hlt
    rw [e2]
    by_cases hit : (i : Int) = s ∧ (k : Int) = a
    · rw [if_pos (by omega), if_pos ⟨rfl, hit⟩, UInt8.toNat_xor, ← Nat.xor_assoc, Nat.xor_self, Nat.zero_xor]
      simp
      omega
    · rw [if_neg (by omega), if_neg (fun hh => hit hh.2), Nat.xor_self]

set_option maxRecDepth 100000 in
set_option maxHeartbeats 2000000 in
theorem lawDamage_skip (x0 s a m : Int) (l : List Ac) (hn : l.length ≤ 9223372036854775807) (hz : ∀ a ∈ l, acFine a) (ao : Option Addr) (cap : Nat) (hbad : okB l = false) (w : World) (hl : IsActs w ao l) :
    Calls Try.prog 9 #[.int .u8 x0, .slice ao l.length cap, .int .i64 s, .int .i64 a, .int .i64 m] w fun e w' => e = .returned (.bool true) ∧ Below w.heap.size w w' := by
  obtain ⟨L, HL⟩ : ∃ L, Hid (L = l.length) := ⟨_, Lib.hid rfl⟩
  have HAc := Lib.hid hl
  have HK : Hid (∀ W, IsActs W ao l → Calls Try.prog 12 #[.slice ao L cap] W fun e w' => e = .returned (.bool false) ∧ W = w') := Lib.hid fun W h => by
    have h1 := ok_any l hn (fun a ha => (hz a ha).1) ao cap W h
    rw [hbad] at h1
    rw [HL.out]; exact h1
  rw [← HL.out]
  clear hn hz hl hbad
  go_enter Try.func9, Try.ntmps9
  go_wp2_with fail
  refine (head46_any _).mono ?_
  rintro e v1 ⟨rfl, hb⟩
  have HB := Lib.hid hb
  clear hb
  go_wp2_with fail
  refine (HK.out _ (HAc.out.grown HB.out)).mono ?_
  rintro e _ ⟨rfl, rfl⟩
  go_wp2
  go_ret
  exact ⟨rfl, HB.out⟩

set_option maxRecDepth 100000 in
set_option maxHeartbeats 16000000 in
theorem lawDamage_main (x0 s a m : Int) (hx0 : 0 ≤ x0) (hx1 : x0 ≤ 255) (n : Nat) (hnx : 1 + x0 % 12 = (n : Int)) (l : List Ac) (hz : ∀ a ∈ l, acFine a) (ao : Option Addr) (cap : Nat) (hk1 : okB l = true) (w : World) (hl : IsActs w ao l) :
    Calls Try.prog 9 #[.int .u8 x0, .slice ao l.length cap, .int .i64 s, .int .i64 a, .int .i64 m] w fun e w' => e = .returned (.bool true) ∧ Below w.heap.size w w' := by
  have HN : Hid (1 ≤ n ∧ n ≤ 12) := Lib.hid ⟨by omega, by omega⟩
  obtain ⟨L, HL⟩ : ∃ L, Hid (L = l.length) := ⟨_, Lib.hid rfl⟩
  have HAc := Lib.hid hl
  have HK : Hid (∀ W, IsActs W ao l → Calls Try.prog 12 #[.slice ao L cap] W fun e w' => e = .returned (.bool true) ∧ W = w') := Lib.hid fun W h => by
    have h1 := ok_any l (by have := (okB_iff.1 hk1).2; omega) (fun a ha => (hz a ha).1) ao cap W h
    rw [hk1] at h1
    rw [HL.out]; exact h1
  have HSz : Hid (∀ W, Calls Try.prog 14 #[.int .u8 x0] W fun e w' => e = .returned (.int .i64 (n : Int)) ∧ W = w') := Lib.hid fun W => by
    have := size_any x0 hx0 hx1 W
    rw [hnx] at this
    exact this
  have Hok := Lib.hid (okB_iff.1 hk1)
  have HZ := Lib.hid hz
  have hL60 : (L : Int) ≤ 60 := by have := Hok.out.2; have := HL.out; omega
  have HSame : Hid (∀ (W : World) (ss tt : List ByteArray) (g g' c c' : Nat), ss.length = n → tt.length = n → SRow W g ss → SRow W g' tt → Calls Try.prog 27 #[.slice (some ⟨g, 0, none⟩) n c, .slice (some ⟨g', 0, none⟩) n c'] W fun e w' => e = .returned (.bool (decide (ss = tt))) ∧ Below W.heap.size W w') := Lib.hid fun W ss tt g g' c c' h1 h2 h3 h4 => same_rows h1 h2 (by omega) h3 h4
  rw [← HL.out]
  clear hz hl hk1 hx0 hx1 hnx
  go_enter Try.func9, Try.ntmps9
  go_wp2_with fail
  refine (head46_any _).mono ?_
  rintro e v1 ⟨rfl, hb⟩
  have HB := Lib.hid hb
  clear hb
  go_wp2_with fail
  refine (HK.out _ (HAc.out.grown HB.out)).mono ?_
  rintro e _ ⟨rfl, rfl⟩
  go_wp2_with fail
  refine (HSz.out _).mono ?_
  rintro e _ ⟨rfl, rfl⟩
  go_wp2_with fail
  refine (new_any n HN.out.1 (by have := HN.out.2; omega) _).mono ?_
  rintro e v2 ⟨b, rfl, hb, hbn, bs, hbsn, hi⟩
  have HS0 : Hid (St n w (fun _ => False) v2 b bs (Dsk.zero n)) := Lib.hid (St.new (below_step HB.out hb) hi (fun j hj => Nat.le_trans HB.out.size (new_foot hbn hbsn j hj)))
  clear hb hbn hbsn hi
  have HS1 := HS0
  go_wp2
  go_loopw [14] (fun i wr => ∃ j : Nat, j ≤ L ∧ i = .int .i64 j ∧ Hid (St n w (fun _ => False) wr b bs (runD n (Dsk.zero n) (l.take j)))) (fun i _ => L - (intOf i).toNat)
  case atStart => exact ⟨0, by omega, rfl, HS1⟩
  case round =>
    obtain ⟨j, hj, rfl, HS⟩ := hrel
    by_cases hlt : j < L
    · have hjl : j < l.length := by rw [← HL.out]; exact hlt
      have hlt' : (j : Int) < L := by omega
      obtain ⟨bk, off, rfl, hbk, hact⟩ := HAc.out.at hjl
      obtain ⟨a', Ha⟩ : ∃ a, Hid (a = l[j]) := ⟨_, Lib.hid rfl⟩
      rw [← Ha.out] at hact
      obtain ⟨x1, x2, x3, x4, x5, x6⟩ := hact.below HS.out.toBelow hbk
      have HDo := Lib.hid (HS.out.act a' (by rw [Ha.out]; exact Hok.out.1 _ (List.getElem_mem _)) (run_fits (fun c hc => HZ.out c (List.mem_of_mem_take hc)) (zero_fits n)) (by rw [List.length_take]; omega))
      clear hact
      go_wp2_with fail
      refine HDo.out.mono ?_
      rintro e wn ⟨rfl, hs⟩
      have HSn := Lib.hid hs
      clear hs x1 x2 x3 x4 x5 x6
      go_wp2
      go_roundw
      case rel => exact ⟨j + 1, by omega, by go_num, Lib.hid (by rw [runD_take hjl, ← Ha.out]; exact HSn.out)⟩
      case measure => simp [intOf]; omega
    · obtain rfl : L = j := by omega
      obtain ⟨D1, HD1⟩ : ∃ D1, Hid (D1 = runD n (Dsk.zero n) (l.take L)) := ⟨_, Lib.hid rfl⟩
      have HF1 : Hid (fits D1 60) := Lib.hid (by
        rw [HD1.out]
        exact (run_fits (fun c hc => HZ.out c (List.mem_of_mem_take hc)) (zero_fits n)).mono (by rw [List.length_take]; omega))
      rw [← HD1.out] at HS
      obtain ⟨D2, HD2⟩ : ∃ D2, Hid (D2 = Dsk.startD D1) := ⟨_, Lib.hid rfl⟩
      have HF2 : Hid (fits D2 60) := Lib.hid (by rw [HD2.out]; exact start_fits HF1.out)
      have HC2 : Hid (Calm D2) := Lib.hid (by rw [HD2.out]; exact start_calm _)
      go_wp2_with fail
      refine (HS.out.run (D' := D2) (fun pv h => by rw [HD2.out]; exact start_any h)).mono ?_
      rintro e wn ⟨rfl, hs⟩
      replace HS := Lib.hid hs
      clear hs
      obtain ⟨D3, HD3⟩ : ∃ D3, Hid (D3 = Dsk.syncD D2) := ⟨_, Lib.hid rfl⟩
      have HA3 : Hid (D3.pd = [] ∧ Calm D3 ∧ Dsk.syncE D2 = 0) := Lib.hid (by
        have h1 := calm_sync HC2.out
        rw [HD3.out]
        exact ⟨by rw [h1.1], h1.2.2, h1.2.1⟩)
      go_wp2_with fail
      refine (HS.out.run (D' := D3) (fun pv h => by have := sync_any h HF2.out.1; rw [HA3.out.2.2, ← HD3.out] at this; exact this)).mono ?_
      rintro e wn ⟨rfl, hs⟩
      replace HS := Lib.hid hs
      clear hs
      have Hlen : Hid (D3.st.length = 64 * n) := Lib.hid HS.out.ok.st
      obtain ⟨D4, HD4⟩ : ∃ D4, Hid (D4 = Dsk.rotD n D3 s a m) := ⟨_, Lib.hid rfl⟩
      obtain ⟨D5, HD5⟩ : ∃ D6, Hid (D6 = Dsk.rotD n D4 s a m) := ⟨_, Lib.hid rfl⟩
      have HC4 : Hid (D4.off = false ∧ D5.off = false ∧ D4.pd = [] ∧ D5.pd = [] ∧ D5.st = D3.st) := Lib.hid (by
        rw [HD5.out, HD4.out]
        exact rot_keeps Hlen.out HA3.out.2.1.1 HA3.out.1)
      obtain ⟨pv4, hi4, hf4⟩ := HS.out.2
      have HI4 := Lib.hid hi4
      have HF4 : Hid (∀ j, foot b bs pv4 j → w.heap.size ≤ j) := Lib.hid fun j hj => (hf4 j hj).elim (fun h => h.elim) id
      have HBw := Lib.hid HS.out.toBelow
      have HCt := Lib.hid (HS.out.contents HA3.out.2.1.1)
      clear hi4 hf4
      go_wp2_with fail
      refine HCt.out.mono ?_
      rintro e wa ⟨g1, cap1, rfl, hb, hg1, hr1⟩
      have HBa := Lib.hid (below_step HBw.out hb)
      have HG1 : Hid (¬ foot b bs pv4 g1) := Lib.hid fun hk => by have := foot_lt HI4.out hk; omega
      have HR1 := Lib.hid hr1
      replace HS := Lib.hid ((HI4.out.grown hb).base)
      clear hb hg1 hr1
      go_wp2_with fail
      refine (HS.out.run (D' := D4) (fun pv h => by rw [HD4.out]; exact rot_any h s a m)).mono ?_
      rintro e wn ⟨rfl, hs⟩
      replace HS := Lib.hid hs
      clear hs
      obtain ⟨pv6, hi6, hf6⟩ := HS.out.2
      have HI6 := Lib.hid hi6
      have HF6 : Hid (∀ j, foot b bs pv6 j → w.heap.size ≤ j) := Lib.hid fun j hj => by
        rcases hf6 j hj with h | h
        · exact HF4.out j h
        · have := HBa.out.size; omega
      have HG6 : Hid (¬ foot b bs pv6 g1) := Lib.hid fun hk => by
        rcases hf6 g1 hk with h | h
        · exact HG1.out h
        · have := HR1.out.1; omega
      have HBb := Lib.hid (HS.out.deep HBa.out HF4.out)
      have HR1b := Lib.hid (HR1.out.kept HS.out.1 HG1.out)
      have HCt2 := Lib.hid (HS.out.contents HC4.out.1)
      clear hi6 hf6
      go_wp2_with fail
      refine HCt2.out.mono ?_
      rintro e wb ⟨g2, cap2, rfl, hb, hg2, hr2⟩
      have HBc := Lib.hid (below_step HBb.out hb)
      have HG2 : Hid (¬ foot b bs pv6 g2) := Lib.hid fun hk => by have := foot_lt HI6.out hk; omega
      have HR1c := Lib.hid (HR1b.out.below hb)
      have HR2 := Lib.hid hr2
      replace HS := Lib.hid ((HI6.out.grown hb).base)
      clear hb hg2 hr2
      go_wp2_with fail
      refine (HS.out.run (D' := D5) (fun pv h => by rw [HD5.out]; exact rot_any h s a m)).mono ?_
      rintro e wn ⟨rfl, hs⟩
      replace HS := Lib.hid hs
      clear hs
      have HR1d := Lib.hid (HR1c.out.kept HS.out.1 HG6.out)
      have HR2d := Lib.hid (HR2.out.kept HS.out.1 HG2.out)
      have HBd := Lib.hid (HS.out.deep HBc.out HF6.out)
      have HCt3 := Lib.hid (HS.out.contents HC4.out.2.1)
      go_wp2_with fail
      refine HCt3.out.mono ?_
      rintro e wc ⟨g3, cap3, rfl, hb, hg3, hr3⟩
      have HBe := Lib.hid (below_step HBd.out hb)
      have HR1e := Lib.hid (HR1d.out.below hb)
      have HR2e := Lib.hid (HR2d.out.below hb)
      have HR3 := Lib.hid hr3
      clear hb hg3 hr3
      have HEq : Hid (seenL D3 n = seenL D5 n) := Lib.hid (seenL_same n HC4.out.2.2.2.2.symm (by rw [HA3.out.1, HC4.out.2.2.2.1]))
      go_wp2_with fail
      refine (HSame.out _ _ _ _ _ _ _ (seenL_len _ _) (seenL_len _ _) HR1e.out HR3.out).mono ?_
      rintro e wd ⟨rfl, hb⟩
      rw [decide_eq_true HEq.out]
      have HBf := Lib.hid (below_step HBe.out hb)
      have HR1f := Lib.hid (HR1e.out.below hb)
      have HR2f := Lib.hid (HR2e.out.below hb)
      clear hb
      obtain ⟨V, HV⟩ : ∃ V, Hid (V = Dsk.rotB n s a m) := ⟨_, Lib.hid rfl⟩
      go_upto_region 20 with fail
      go_cut [21] (fun v wx => v = .bool V ∧ wx = wd)
      case first =>
        have hc : (V = true ∧ 0 ≤ s ∧ s < n ∧ 0 ≤ a ∧ a < 64 ∧ 1 ≤ m ∧ m ≤ 255) ∨ (V = false ∧ (s < 0 ∨ (0 ≤ s ∧ (n : Int) ≤ s) ∨ (0 ≤ s ∧ s < n ∧ a < 0) ∨ (0 ≤ s ∧ s < n ∧ 0 ≤ a ∧ 64 ≤ a) ∨ (0 ≤ s ∧ s < n ∧ 0 ≤ a ∧ a < 64 ∧ m < 1) ∨ (0 ≤ s ∧ s < n ∧ 0 ≤ a ∧ a < 64 ∧ 1 ≤ m ∧ 255 < m))) := by
          rw [HV.out]
          cases hr : Dsk.rotB n s a m
          · refine Or.inr ⟨rfl, ?_⟩
            have h2 : ¬ ((0 ≤ s ∧ s < n) ∧ (0 ≤ a ∧ a < 64) ∧ 1 ≤ m ∧ m ≤ 255) := fun hh => by rw [Dsk.rotB_iff.2 hh] at hr; cases hr
            omega
          · obtain ⟨⟨b1, b2⟩, ⟨b3, b4⟩, b5, b6⟩ := Dsk.rotB_iff.1 hr
            exact Or.inl ⟨rfl, b1, b2, b3, b4, b5, b6⟩
        rcases hc with ⟨hV, c1, c2, c3, c4, c5, c6⟩ | ⟨hV, hc⟩
        · have HVt := Lib.hid hV
          clear hV
          go_wp2_with fail
          go_meet
          exact ⟨by rw [HVt.out] <;> first | rfl | (show Value.bool (decide (m ≤ 255)) = _; rw [decide_eq_true c6]), rfl⟩
        · have HVt := Lib.hid hV
          clear hV
          rcases hc with c1 | ⟨c1, c2⟩ | ⟨c1, c2, c3⟩ | ⟨c1, c2, c3, c4⟩ | ⟨c1, c2, c3, c4, c5⟩ | ⟨c1, c2, c3, c4, c5, c6⟩
          all_goals
            go_wp2_with fail
            go_meet
            refine ⟨?_, rfl⟩
            rw [HVt.out] <;> first
              | rfl
              | (show Value.bool (decide (m ≤ 255)) = _; rw [decide_eq_false (by omega)])
              | (show Value.bool (decide (1 ≤ m)) = _; rw [decide_eq_false (by omega)])
              | (show Value.bool (decide (a < 64)) = _; rw [decide_eq_false (by omega)])
              | (show Value.bool (decide (0 ≤ a)) = _; rw [decide_eq_false (by omega)])
              | (show Value.bool (decide (s < n)) = _; rw [decide_eq_false (by omega)])
              | (show Value.bool (decide (0 ≤ s)) = _; rw [decide_eq_false (by omega)])
      case rest =>
        obtain ⟨rfl, hwx⟩ := hcut
        have hwy := hwx.symm
        clear hwx
        subst hwy
        have hn12 : (n : Int) ≤ 12 := by have := HN.out.2; omega
        have HPd : Hid (D3.pd = [] ∧ D4.pd = []) := Lib.hid ⟨HA3.out.1, HC4.out.2.2.1⟩
        go_wp2
        go_loopw [22] (fun i wr => ∃ i' : Nat, i' ≤ n ∧ i = .int .i64 i' ∧ Hid (Below wd.heap.size wd wr)) (fun i _ => n - (intOf i).toNat)
        case atStart => exact ⟨0, by omega, rfl, Lib.hid (Below.refl _ _)⟩
        case round =>
          obtain ⟨i', hi', rfl, HBi⟩ := hrel
          by_cases hil : i' < n
          · have hil' : (i' : Int) < n := by omega
            obtain ⟨wo, rfl⟩ : ∃ x, x = wr := ⟨_, rfl⟩
            go_wp2
            go_loopw [23] (fun i wi => ∃ k' : Nat, k' ≤ 64 ∧ i = .int .i64 k' ∧ Hid (Below wd.heap.size wd wi)) (fun i _ => 64 - (intOf i).toNat)
            case atStart => exact ⟨0, by omega, rfl, HBi⟩
            case round =>
              obtain ⟨k', hk', rfl, HBk⟩ := hrel
              by_cases hkl : k' < 64
              · have hkl' : (k' : Int) < 64 := by omega
                have hr1 := ((HR1f.out.below HBk.out).2 i' (by rw [seenL_len]; exact hil)).1
                have hr2 := ((HR2f.out.below HBk.out).2 i' (by rw [seenL_len]; exact hil)).1
                rw [seenL_get, seen_calm HPd.out.1] at hr1
                rw [seenL_get, seen_calm HPd.out.2] at hr2
                obtain ⟨X, HX⟩ : ∃ X : ByteArray, Hid (X = ⟨(Dsk.bytes D3.st i').toArray⟩) := ⟨_, Lib.hid rfl⟩
                obtain ⟨Y, HY⟩ : ∃ X : ByteArray, Hid (X = ⟨(Dsk.bytes D4.st i').toArray⟩) := ⟨_, Lib.hid rfl⟩
                have hl4 : D4.st.length = 64 * n := by rw [HD4.out]; exact (Dsk.rot_ok (n := n) ⟨Hlen.out, by rw [HPd.out.1]; simp, HN.out.1, by have := HN.out.2; omega, by rw [HPd.out.1]; simp⟩ s a m).st
                have hXs : X.size = 64 := by rw [HX.out]; show (Dsk.bytes D3.st i').toArray.size = 64; rw [List.size_toArray]; exact bytes_len Hlen.out hil
                have hYs : Y.size = 64 := by rw [HY.out]; show (Dsk.bytes D4.st i').toArray.size = 64; rw [List.size_toArray]; exact bytes_len hl4 hil
                have hXk : k' < X.size := by omega
                have hYk : k' < Y.size := by omega
                have hxor : ((X[k']'hXk).toNat ^^^ (Y[k']'hYk).toNat : Nat) = if Dsk.rotB n s a m = true ∧ (i' : Int) = s ∧ (k' : Int) = a then m.toNat else 0 := by
                  have h1 := HX.out
                  have h2 := HY.out
                  subst h1 h2
                  exact rot_xor Hlen.out HD4.out hil hkl hXk hYk
                rw [← HX.out] at hr1
                rw [← HY.out] at hr2
                have hx8 := u8_xor_nat _ _ (UInt8.toNat_lt (X[k']'hXk)) (UInt8.toNat_lt (Y[k']'hYk))
                rw [hxor, ← HV.out] at hx8
                have HX8 := Lib.hid hx8
                have l1 := lt_of_cell hr1
                have l2 := lt_of_cell hr2
                have p1 : ∀ Z : Grown wr, Z.w.cell? ⟨g1, i', none⟩ = some (.string X) := fun Z => by rw [Z.cell l1, hr1]
                have p2 : ∀ Z : Grown wr, Z.w.cell? ⟨g2, i', none⟩ = some (.string Y) := fun Z => by rw [Z.cell l2, hr2]
                have hXi : (k' : Int) < X.size := by omega
                have hYi : (k' : Int) < Y.size := by omega
                clear hr1 hr2 hXs hYs hxor hx8 hl4
                have hcase : V = false ∨ (V = true ∧ ((i' : Int) == s) = false) ∨ (V = true ∧ ((i' : Int) == s) = true ∧ ((k' : Int) == a) = false) ∨ (V = true ∧ ((i' : Int) == s) = true ∧ ((k' : Int) == a) = true) := by
                  cases V
                  · exact Or.inl rfl
                  · refine Or.inr ?_
                    cases hq1 : ((i' : Int) == s)
                    · exact Or.inl ⟨rfl, rfl⟩
                    · cases hq2 : ((k' : Int) == a)
                      · exact Or.inr (Or.inl ⟨rfl, rfl, rfl⟩)
                      · exact Or.inr (Or.inr ⟨rfl, rfl, rfl⟩)
                have wr0 : IntKind.i64.wrap (0 : Int) = 0 := rfl
                rcases hcase with rfl | ⟨rfl, q1⟩ | ⟨rfl, q1, q2⟩ | ⟨rfl, q1, q2⟩
                · have hq := HX8.out
                  rw [if_neg (fun hh => by cases hh.1)] at hq
                  have hqz : bits .xor .u8 ((X[k']'hXk).toNat : Int) ((Y[k']'hYk).toNat : Int) = 0 := hq
                  clear hq
                  go_wp2_with fail
                  refine wp_region_grown (by kernel_rfl) (by kernel_rfl) ?_
                  repeat (go_big_quiet_step (fail))
                  refine wpQuiet_nil ?_
                  rintro _ ⟨Z, rfl⟩
                  go_wp2
                  go_roundw
                  case rel => exact ⟨k' + 1, by omega, by go_num, Lib.hid (below_step HBk.out Z.below)⟩
                  case measure => simp [intOf]; omega
                · have hq := HX8.out
                  rw [if_neg (fun hh => by have h2 := hh.2.1; rw [h2, beq_self_eq_true] at q1; cases q1)] at hq
                  have hqz : bits .xor .u8 ((X[k']'hXk).toNat : Int) ((Y[k']'hYk).toNat : Int) = 0 := hq
                  clear hq
                  go_wp2_with fail
                  refine wp_region_grown (by kernel_rfl) (by kernel_rfl) ?_
                  repeat (go_big_quiet_step (fail))
                  refine wpQuiet_nil ?_
                  rintro _ ⟨Z, rfl⟩
                  go_wp2
                  go_roundw
                  case rel => exact ⟨k' + 1, by omega, by go_num, Lib.hid (below_step HBk.out Z.below)⟩
                  case measure => simp [intOf]; omega
                · have hq := HX8.out
                  rw [if_neg (fun hh => by have h2 := hh.2.2; rw [h2, beq_self_eq_true] at q2; cases q2)] at hq
                  have hqz : bits .xor .u8 ((X[k']'hXk).toNat : Int) ((Y[k']'hYk).toNat : Int) = 0 := hq
                  clear hq
                  go_wp2_with fail
                  refine wp_region_grown (by kernel_rfl) (by kernel_rfl) ?_
                  repeat (go_big_quiet_step (fail))
                  refine wpQuiet_nil ?_
                  rintro _ ⟨Z, rfl⟩
                  go_wp2
                  go_roundw
                  case rel => exact ⟨k' + 1, by omega, by go_num, Lib.hid (below_step HBk.out Z.below)⟩
                  case measure => simp [intOf]; omega
                · have hq := HX8.out
                  obtain ⟨-, -, m1, m2⟩ := Dsk.rotB_iff.1 HV.out.symm
                  rw [if_pos ⟨rfl, eq_of_beq q1, eq_of_beq q2⟩, Int.toNat_of_nonneg (by omega)] at hq
                  have hwm : IntKind.i64.wrap m = m := by rw [IntKind.wrap_i64]; omega
                  have hmm : (m != m) = false := by simp
                  have hqz : bits .xor .u8 ((X[k']'hXk).toNat : Int) ((Y[k']'hYk).toNat : Int) = m := hq
                  clear hq m1 m2
                  go_wp2_with fail
                  refine wp_region_grown (by kernel_rfl) (by kernel_rfl) ?_
                  repeat (go_big_quiet_step (fail))
                  refine wpQuiet_nil ?_
                  rintro _ ⟨Z, rfl⟩
                  go_wp2
                  go_roundw
                  case rel => exact ⟨k' + 1, by omega, by go_num, Lib.hid (below_step HBk.out Z.below)⟩
                  case measure => simp [intOf]; omega
              · obtain rfl : k' = 64 := by omega
                go_wp2
                go_roundw
                case rel => exact ⟨i' + 1, by omega, by go_num, HBk⟩
                case measure => simp [intOf]; omega
          · obtain rfl : i' = n := by omega
            go_wp2
            go_ret
            exact ⟨rfl, below_step HBf.out HBi.out⟩

theorem lawDamage_any (x0 : Int) (hx0 : 0 ≤ x0) (hx1 : x0 ≤ 255) (l : List Ac) (hn : l.length ≤ 9223372036854775807) (hz : ∀ a ∈ l, acFine a) (ao : Option Addr) (cap : Nat) (s a m : Int) (w : World) (hl : IsActs w ao l) :
    Calls Try.prog 9 #[.int .u8 x0, .slice ao l.length cap, .int .i64 s, .int .i64 a, .int .i64 m] w fun e w' => e = .returned (.bool true) ∧ Below w.heap.size w w' := by
  cases h1 : okB l
  · exact lawDamage_skip x0 s a m l hn hz ao cap h1 w hl
  · obtain ⟨n, hn2⟩ : ∃ n : Nat, 1 + x0 % 12 = n := ⟨(1 + x0 % 12).toNat, by omega⟩
    exact lawDamage_main x0 s a m hx0 hx1 n hn2 l hz ao cap h1 w hl

end Go.Proofs.Ytenddmcepfkbaaa
