/- The statement's own function prefix. -/
import Derived.Test.YtenddmcepfkbaaaDskPrefMath
namespace Go.Proofs.Ytenddmcepfkbaaa
open Go.RowKit

set_option maxRecDepth 100000 in
set_option maxHeartbeats 16000000 in
theorem prefix_any (n : Nat) (hn1 : 1 ≤ n) (hn2 : n ≤ 12) (l : List Ac) (hz : ∀ a ∈ l, acFine a) (ao : Option Addr) (cap : Nat) (hk1 : okB l = true) (l2 : List Ac) (hz2 : ∀ a ∈ l2, acFine a) (ao2 : Option Addr) (cap2 : Nat) (hk2 : okB l2 = true) (kw : Nat) (hwn : kw ≤ 60)
    (D3 : Dsk.Dk) (hD3 : D3 = Dsk.syncD (Dsk.startD (runD n (Dsk.zero n) l))) (w : World) (hl : IsActs w ao l) (hl2 : IsActs w ao2 l2) :
    Calls Try.prog 26 #[.int .i64 n, .slice ao l.length cap, .slice ao2 l2.length cap2, .int .i64 kw] w (ContPost n w (pnd D3 ((vw n l2).take kw))) := by
  have HN : Hid (1 ≤ n ∧ n ≤ 12) := Lib.hid ⟨hn1, hn2⟩
  obtain ⟨L, HL⟩ : ∃ L, Hid (L = l.length) := ⟨_, Lib.hid rfl⟩
  have HAc := Lib.hid hl
  obtain ⟨M, HM⟩ : ∃ M, Hid (M = l2.length) := ⟨_, Lib.hid rfl⟩
  have HAc2 := Lib.hid hl2
  have Hok2 := Lib.hid (okB_iff.1 hk2)
  have hM60 : (M : Int) ≤ 60 := by have := Hok2.out.2; have := HM.out; omega
  have Hok := Lib.hid (okB_iff.1 hk1)
  have HZ := Lib.hid hz
  have hL60 : (L : Int) ≤ 60 := by have := Hok.out.2; have := HL.out; omega
  have HD := Lib.hid hD3
  have hw60 : (kw : Int) ≤ 60 := by omega
  rw [← HL.out, ← HM.out]
  clear hz hl hk1 hz2 hl2 hk2 hn1 hn2 hD3 hwn
  go_enter Try.func26, Try.ntmps26
  go_wp2_with fail
  refine (new_any n HN.out.1 (by have := HN.out.2; omega) _).mono ?_
  rintro e v2 ⟨b, rfl, hb, hbn, bs, hbsn, hi⟩
  have HS1 : Hid (St n w (fun _ => False) v2 b bs (Dsk.zero n)) := Lib.hid (St.new hb hi (fun j hj => new_foot hbn hbsn j hj))
  clear hb hbn hbsn hi
  go_wp2
  go_loopw [11] (fun i wr => ∃ j : Nat, j ≤ L ∧ i = .int .i64 j ∧ Hid (St n w (fun _ => False) wr b bs (runD n (Dsk.zero n) (l.take j)))) (fun i _ => L - (intOf i).toNat)
  case atStart => exact ⟨0, by omega, rfl, HS1⟩
  case round =>
    obtain ⟨j, hj, rfl, HS⟩ := hrel
    by_cases hlt : j < L
    · have hjl : j < l.length := by rw [← HL.out]; exact hlt
      have hlt' : (j : Int) < L := by omega
      obtain ⟨bk, off, rfl, hbk, hact⟩ := HAc.out.at hjl
      obtain ⟨a', Ha⟩ : ∃ a, Hid (a = l[j]) := ⟨_, Lib.hid rfl⟩
      rw [← Ha.out] at hact
      obtain ⟨x1, x2, x3, x4, x5, x6⟩ := hact.below HS.out.toBelow hbk
      have HDo := Lib.hid (HS.out.act a' (by rw [Ha.out]; exact Hok.out.1 _ (List.getElem_mem _)) (run_fits (fun c hc => HZ.out c (List.mem_of_mem_take hc)) (zero_fits n)) (by rw [List.length_take]; omega))
      clear hact
      go_wp2_with fail
      refine HDo.out.mono ?_
      rintro e wz ⟨rfl, hs⟩
      have HSn := Lib.hid hs
      clear hs x1 x2 x3 x4 x5 x6
      go_wp2
      go_roundw
      case rel => exact ⟨j + 1, by omega, by go_num, Lib.hid (by rw [runD_take hjl, ← Ha.out]; exact HSn.out)⟩
      case measure => simp [intOf]; omega
    · obtain rfl : L = j := by omega
      obtain ⟨D1, HD1⟩ : ∃ D1, Hid (D1 = runD n (Dsk.zero n) (l.take L)) := ⟨_, Lib.hid rfl⟩
      have HF1 : Hid (fits D1 60) := Lib.hid (by
        rw [HD1.out]
        exact (run_fits (fun c hc => HZ.out c (List.mem_of_mem_take hc)) (zero_fits n)).mono (by rw [List.length_take]; omega))
      rw [← HD1.out] at HS
      obtain ⟨D2, HD2⟩ : ∃ D2, Hid (D2 = Dsk.startD D1) := ⟨_, Lib.hid rfl⟩
      have HF2 : Hid (fits D2 60) := Lib.hid (by rw [HD2.out]; exact start_fits HF1.out)
      have HC2 : Hid (Calm D2) := Lib.hid (by rw [HD2.out]; exact start_calm _)
      go_wp2_with fail
      refine (HS.out.run (D' := D2) (fun pv h => by rw [HD2.out]; exact start_any h)).mono ?_
      rintro e wz ⟨rfl, hs⟩
      replace HS := Lib.hid hs
      clear hs
      have HD3 : Hid (D3 = Dsk.syncD D2) := Lib.hid (by rw [HD.out, HD2.out, HD1.out, List.take_of_length_le (by rw [HL.out]; exact Nat.le_refl _)])
      have HA3 : Hid (D3.pd = [] ∧ Calm D3 ∧ Dsk.syncE D2 = 0) := Lib.hid (by
        have h1 := calm_sync HC2.out
        rw [HD3.out]
        exact ⟨by rw [h1.1], h1.2.2, h1.2.1⟩)
      go_wp2_with fail
      refine (HS.out.run (D' := D3) (fun pv h => by have := sync_any h HF2.out.1; rw [HA3.out.2.2, ← HD3.out] at this; exact this)).mono ?_
      rintro e wz ⟨rfl, hs⟩
      replace HS := Lib.hid hs
      clear hs
      have HF3 : Hid (fits D3 60) := Lib.hid (by rw [HD3.out]; exact sync_fits HF2.out)
      have HS3 : Hid (St n w (fun _ => False) wz b bs (pnd D3 (vw n (l2.take 0)))) := Lib.hid (by
        have : vw n (l2.take 0) = [] := rfl
        rw [this, wr_self HA3.out.1]; exact HS.out)
      go_wp2
      go_loopw [12, 13] (fun d i wr => ∃ j : Nat, j ≤ M ∧ i = .int .i64 j ∧ ∃ dn : Nat, d = .int .i64 dn ∧ Hid (dn = (vw n (l2.take j)).length) ∧ dn ≤ kw ∧ Hid (St n w (fun _ => False) wr b bs (pnd D3 (vw n (l2.take j))))) (fun _ i _ => M - (intOf i).toNat)
      case atStart => exact ⟨0, by omega, rfl, 0, rfl, Lib.hid rfl, by omega, HS3⟩
      case round =>
        obtain ⟨j, hj, rfl, dn, rfl, HDn, hdn, HH⟩ := hrel
        have hend : (j = M ∨ dn = kw) → Hid ((vw n l2).take kw = vw n (l2.take j)) := fun h => Lib.hid (by
          rcases h with h | h
          · have e : l2.take j = l2 := List.take_of_length_le (by rw [h, HM.out]; exact Nat.le_refl _)
            have h2 := HDn.out
            rw [e] at h2 ⊢
            exact List.take_of_length_le (by omega)
          · have h2 := vw_first n l2 j
            rw [← HDn.out, h] at h2
            exact h2)
        have hfin : (j = M ∨ dn = kw) → ∀ W, St n w (fun _ => False) W b bs (pnd D3 (vw n (l2.take j))) → St n w (fun _ => False) W b bs (pnd D3 ((vw n l2).take kw)) := fun h W h2 => by rw [(hend h).out]; exact h2
        have HFin := Lib.hid hfin
        clear hend hfin
        have hdn2 : (dn : Int) ≤ kw := by omega
        by_cases hlt : j < M
        · have hlt' : (j : Int) < M := by omega
          by_cases hdl : dn < kw
          · have hdl' : (dn : Int) < kw := by omega
            have hjl : j < l2.length := by rw [← HM.out]; exact hlt
            obtain ⟨bk, off, rfl, hbk, hact⟩ := HAc2.out.at hjl
            obtain ⟨a', Ha⟩ : ∃ a, Hid (a = l2[j]) := ⟨_, Lib.hid rfl⟩
            have hts : a'.text.size ≤ 100 := by rw [Ha.out]; exact Hok2.out.1 _ (List.getElem_mem _)
            have HY := Lib.hid (fun h => vw_yes (n := n) hjl h)
            have HNo := Lib.hid (fun h => vw_no (n := n) hjl h)
            rw [← Ha.out] at hact HY HNo
            clear Ha
            obtain ⟨k, s, y', t, odd, f⟩ := a'
            obtain ⟨T, HT⟩ : ∃ T, Hid (T = textV odd t) := ⟨_, Lib.hid rfl⟩
            have HXt : Hid (∀ W, Calls Try.prog 24 #[.agg #[.int .i64 k, .int .i64 s, .int .i64 y', .string t, .bool odd, .int .i64 f]] W fun e w' => e = .returned (.string T) ∧ Below W.heap.size W w') := Lib.hid fun W => by
              rw [HT.out]; exact text_any ⟨k, s, y', t, odd, f⟩ hts W
            have HTs : Hid (T.size ≤ 9223372036854775807) := Lib.hid (by rw [HT.out]; exact textV_size odd t hts)
            replace HY : Hid ((Dsk.has n s && (T.size == 64)) = true → vw n (l2.take (j + 1)) = vw n (l2.take j) ++ [(s.toNat, T)]) := Lib.hid (by rw [HT.out]; exact HY.out)
            replace HNo : Hid ((Dsk.has n s && (T.size == 64)) = false → vw n (l2.take (j + 1)) = vw n (l2.take j)) := Lib.hid (by rw [HT.out]; exact HNo.out)
            have HQ : Hid ((vw n (l2.take j)).length ≤ 60) := Lib.hid (by have h1 := vw_len n (l2.take j); rw [List.length_take] at h1; omega)
            obtain ⟨Q, HQe⟩ : ∃ Q, Hid (Q = vw n (l2.take j)) := ⟨_, Lib.hid rfl⟩
            rw [← HQe.out] at HH HQ HDn HY HNo
            obtain ⟨x1, x2, x3, x4, x5, x6⟩ := hact.below HH.out.toBelow hbk
            have hlt1 : bk < wr.heap.size := Nat.lt_of_lt_of_le hbk HH.out.toBelow.size
            have p1 : ∀ X : Grown wr, X.w.cell? ⟨bk, off + j * 6, none⟩ = some (.int .i64 k) := fun X => by rw [X.cell hlt1, x1]
            have p2 : ∀ X : Grown wr, X.w.cell? ⟨bk, off + j * 6 + 1, none⟩ = some (.int .i64 s) := fun X => by rw [X.cell hlt1, x2]
            have p3 : ∀ X : Grown wr, X.w.cell? ⟨bk, off + j * 6 + 2, none⟩ = some (.int .i64 y') := fun X => by rw [X.cell hlt1, x3]
            have p4 : ∀ X : Grown wr, X.w.cell? ⟨bk, off + j * 6 + 3, none⟩ = some (.string t) := fun X => by rw [X.cell hlt1, x4]
            have p5 : ∀ X : Grown wr, X.w.cell? ⟨bk, off + j * 6 + 4, none⟩ = some (.bool odd) := fun X => by rw [X.cell hlt1, x5]
            have p6 : ∀ X : Grown wr, X.w.cell? ⟨bk, off + j * 6 + 5, none⟩ = some (.int .i64 f) := fun X => by rw [X.cell hlt1, x6]
            clear x1 x2 x3 x4 x5 x6 hact hbk hts
            go_wp2_with fail
            refine wp_region_grown_tail 11 (by kernel_rfl) (by kernel_rfl) ?_
            simp only [List.take_succ_cons, List.take_zero, List.drop_succ_cons, List.drop_zero]
            repeat (go_big_quiet_step ((go_at_call 24; exact grown_of (HXt.out _))))
            refine wpQuiet_nil ?_
            intro Z
            have HHz := Lib.hid (HH.out.below Z.below)
            clear p1 p2 p3 p4 p5 p6
            cases hv : (Dsk.has n s && (T.size == 64))
            · have HE2 := Lib.hid (wr_no (n := n) HA3.out.2.1 Q hv)
              have hnx := HNo.out hv
              clear hv
              go_wp2_with fail
              refine (HHz.out.run (D' := pnd D3 Q) (fun pv h => by have := write_any h s T HTs.out (Nat.lt_of_le_of_lt HQ.out (by decide)) HF3.out.1; rw [HE2.out.1, HE2.out.2] at this; exact this)).mono ?_
              rintro e wo ⟨rfl, hs⟩
              have HHn := Lib.hid hs
              clear hs
              go_wp2
              go_roundw
              case rel => exact ⟨j + 1, by omega, by go_num, dn, rfl, Lib.hid (by rw [hnx]; exact HDn.out), by omega, Lib.hid (by rw [hnx]; exact HHn.out)⟩
              case measure => simp [intOf]; omega
            · have HE2 := Lib.hid (wr_yes (n := n) HA3.out.2.1 Q hv)
              have hnx := HY.out hv
              clear hv
              go_wp2_with fail
              refine (HHz.out.run (D' := pnd D3 (Q ++ [(s.toNat, T)])) (fun pv h => by have := write_any h s T HTs.out (Nat.lt_of_le_of_lt HQ.out (by decide)) HF3.out.1; rw [HE2.out.1, HE2.out.2] at this; exact this)).mono ?_
              rintro e wo ⟨rfl, hs⟩
              have HHn := Lib.hid hs
              clear hs
              go_wp2
              go_roundw
              case rel => exact ⟨j + 1, by omega, by go_num, dn + 1, by go_num, Lib.hid (by rw [hnx, List.length_append, ← HDn.out]; rfl), by omega, Lib.hid (by rw [hnx]; exact HHn.out)⟩
              case measure => simp [intOf]; omega
          · obtain rfl : dn = kw := by omega
            replace HH := Lib.hid (HFin.out (Or.inr rfl) _ HH.out)
            go_wp2_with fail
            refine (HH.out.contents (wr_calm HA3.out.2.1 _).1).mono ?_
            rintro e wo ⟨g, capb, rfl, hb, hg, hr⟩
            have HBw := Lib.hid HH.out.toBelow
            go_wp2
            go_ret2
            exact ⟨g, capb, rfl, below_step HBw.out hb, Nat.le_trans HBw.out.size hg, hr⟩
        · obtain rfl : M = j := by omega
          replace HH := Lib.hid (HFin.out (Or.inl rfl) _ HH.out)
          go_wp2_with fail
          refine (HH.out.contents (wr_calm HA3.out.2.1 _).1).mono ?_
          rintro e wo ⟨g, capb, rfl, hb, hg, hr⟩
          have HBw := Lib.hid HH.out.toBelow
          go_wp2
          go_ret2
          exact ⟨g, capb, rfl, below_step HBw.out hb, Nat.le_trans HBw.out.size hg, hr⟩

end Go.Proofs.Ytenddmcepfkbaaa
