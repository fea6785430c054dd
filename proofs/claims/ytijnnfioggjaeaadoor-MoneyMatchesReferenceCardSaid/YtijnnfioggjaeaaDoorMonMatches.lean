/- The statement that all functions of money agree with the reference: its walk. -/
import Derived.Test.YtijnnfioggjaeaaDoorMonHead
import Derived.Test.YtijnnfioggjaeaaDoorMonRefSplit
import Derived.Test.YtijnnfioggjaeaaDoorMonInts
namespace Go.Proofs.YtijnnfioggjaeaaDoor
open Go.RowKit

set_option maxHeartbeats 2000000 in
theorem refSplit_no (n : Int) (zs : List Int) (hn : zs.length ≤ 140737488351232) (hbad : Mon.splitB n zs = false) (ao : Option Addr) (cap : Nat) (w : World) (hz : IsInts w ao zs) :
    Calls Tryd.prog 7 #[.int .i64 n, .slice ao zs.length cap] w fun e w' => e = .returned (.tuple #[.slice none 0 0, .int .i64 1]) ∧ w = w' := by
  have hT := refTotal_any zs hn ao cap w hz
  have hI := refIs_any n w
  obtain ⟨len, Hlen⟩ : ∃ len, Hid (len = zs.length) := ⟨_, Lib.hid rfl⟩
  rw [← Hlen.out] at hT ⊢
  cases ha : Mon.amtB n
  · rw [ha] at hI
    obtain ⟨t, Ht⟩ : ∃ t, Hid (t = Mon.totR zs) := ⟨_, Lib.hid rfl⟩
    rw [← Ht.out] at hT
    have HT := Lib.hid hT
    have HI := Lib.hid hI
    clear hT hI ha hbad hz
    go_enter Tryd.func7, Tryd.ntmps7
    go_wp2_with fail
    refine HT.out.mono ?_
    rintro e _ ⟨rfl, rfl⟩
    go_wp2_with fail
    refine HI.out.mono ?_
    rintro e _ ⟨rfl, rfl⟩
    go_wp2
    go_ret2
    exact ⟨rfl, rfl⟩
  · rw [ha] at hI
    have e : Mon.totR zs = -1 := by
      unfold Mon.splitB at hbad
      rw [ha, Bool.and_true] at hbad
      unfold Mon.totR
      rw [hbad]
      rfl
    rw [e] at hT
    have HT := Lib.hid hT
    have HI := Lib.hid hI
    clear hT hI ha hbad hz e
    go_enter Tryd.func7, Tryd.ntmps7
    go_wp2_with fail
    refine HT.out.mono ?_
    rintro e _ ⟨rfl, rfl⟩
    go_wp2_with fail
    refine HI.out.mono ?_
    rintro e _ ⟨rfl, rfl⟩
    go_wp2
    go_ret2
    exact ⟨rfl, rfl⟩

theorem refSplit_any (n : Int) (zs : List Int) (hn : zs.length ≤ 140737488351232) (ao : Option Addr) (cap : Nat) (w : World) (hz : IsInts w ao zs) :
    Calls Tryd.prog 7 #[.int .i64 n, .slice ao zs.length cap] w
      fun e w' => ∃ ao' cap', e = .returned (.tuple #[.slice ao' (Mon.splitV n zs).length cap', .int .i64 (Mon.splitE n zs)]) ∧ Below w.heap.size w w' ∧ IsInts w' ao' (Mon.splitV n zs) := by
  unfold Mon.splitV Mon.splitE
  cases hb : Mon.splitB n zs
  · rw [if_neg (by simp), if_neg (by simp)]
    exact (refSplit_no n zs hn hb ao cap w hz).mono fun e w' ⟨h1, h2⟩ => ⟨none, 0, h1, h2 ▸ Below.refl _ _, Or.inl rfl⟩
  · rw [if_pos rfl, if_pos rfl]
    obtain ⟨⟨h1, h2, h3⟩, h4, h5⟩ := Mon.splitB_iff.1 hb
    have hle := mem_le_sum h2
    have hbd := Mon.sum_bd zs h2
    have hpos : 1 ≤ zs.length := by
      cases zs with
      | nil => simp at h3
      | cons a l => simp
    rcases hz with rfl | ⟨bk, off, rfl, hbk, hc⟩
    · simp at hpos
    have hT := refTotal_any zs hn (some ⟨bk, off, none⟩) cap w (Or.inr ⟨bk, off, rfl, hbk, hc⟩)
    have e1 : Mon.totB zs = true := by unfold Mon.splitB at hb; rw [Bool.and_eq_true] at hb; exact hb.1
    have e2 : Mon.totR zs = zs.sum := by unfold Mon.totR; rw [if_pos e1]
    rw [e2] at hT
    refine (refSplit_good n zs.sum zs zs.length rfl hpos h1 ⟨h4, h5⟩ h2 rfl ⟨by omega, by omega⟩ hle bk off cap w hbk (fun j hj => by rw [hc j hj, List.getElem?_eq_getElem hj]; rfl) (Lib.hid hT) (Mon.amt_iff.2 ⟨h4, h5⟩)).mono ?_
    · rintro e w' ⟨g, cp, rfl, hb2, hg, hr⟩
      refine ⟨some ⟨g, 0, none⟩, cp, by rw [shares_len], hb2, Or.inr ⟨g, 0, rfl, ?_, fun k hk => by rw [Nat.zero_add]; exact (hr k hk).1⟩⟩
      exact lt_of_cell (hr 0 (by rw [shares_len]; exact hpos)).1

set_option maxRecDepth 100000 in
set_option maxHeartbeats 4000000 in
theorem lawMoney_skip (n p : Int) (len : Nat) (s : ByteArray) (h : 40 < len ∨ len ≤ 40 ∧ 100 < s.size) (hl : len ≤ 140737488351232) (hs : s.size ≤ 140737488351232) (ao : Option Addr) (cap : Nat) (w : World) (ht : Tab w) :
    Calls Tryd.prog 3 #[.int .i64 n, .slice ao len cap, .int .i64 p, .string s] w fun e w' => e = .returned (.bool true) ∧ Below w.heap.size w w' := by
  have HH := Lib.hid (head03_any w ht)
  clear ht
  rcases h with h1 | ⟨h1, h2⟩
  · have h1' : (40 : Int) < len := by omega
    go_enter Tryd.func3, Tryd.ntmps3
    go_wp2_with fail
    refine HH.out.mono ?_
    rintro e v1 ⟨rfl, hb⟩
    go_wp2
    go_ret
    exact ⟨rfl, hb⟩
  · have h1' : ¬ (40 : Int) < len := by omega
    have h2' : (100 : Int) < s.size := by omega
    go_enter Tryd.func3, Tryd.ntmps3
    go_wp2_with fail
    refine HH.out.mono ?_
    rintro e v1 ⟨rfl, hb⟩
    go_wp2
    go_ret
    exact ⟨rfl, hb⟩

theorem text_all (n : Int) : ∃ (T : ByteArray) (t : Int), (∀ W, Tab W → Calls Tryd.prog 10 #[.int .i64 n] W fun e w' => e = .returned (.tuple #[.string T, .int .i64 t]) ∧ Below W.heap.size W w') ∧ ∀ W, Calls Tryd.prog 11 #[.int .i64 n] W fun e w' => e = .returned (.tuple #[.string T, .int .i64 t]) ∧ W = w' := by
  by_cases h : 0 ≤ n ∧ n ≤ 1000000000000
  · obtain ⟨k, rfl⟩ : ∃ k : Nat, n = k := ⟨n.toNat, by omega⟩
    exact ⟨_, _, fun W hW => text_yes k (by omega) W hW, fun W => refText03_yes k (by omega) W⟩
  · exact ⟨_, _, fun W _ => (text_no n h W).mono fun e w' ⟨h1, h2⟩ => ⟨h1, h2 ▸ Below.refl _ _⟩, fun W => refText03_no n h W⟩

set_option maxRecDepth 100000 in
set_option maxHeartbeats 8000000 in
theorem lawMoney_main (n p : Int) (zs : List Int) (s : ByteArray) (hl : zs.length ≤ 40) (hs : s.size ≤ 100) (ao : Option Addr) (cap : Nat) (w : World) (hz : IsInts w ao zs) (ht : Tab w) :
    Calls Tryd.prog 3 #[.int .i64 n, .slice ao zs.length cap, .int .i64 p, .string s] w fun e w' => e = .returned (.bool true) ∧ Below w.heap.size w w' := by
  have HH := Lib.hid (head03_any w ht)
  have HTab := Lib.hid ht
  have HZ := Lib.hid hz
  obtain ⟨len, Hlen⟩ : ∃ len, Hid (len = zs.length) := ⟨_, Lib.hid rfl⟩
  obtain ⟨L, HL⟩ : ∃ L, Hid (L = (Mon.splitV n zs).length) := ⟨_, Lib.hid rfl⟩
  obtain ⟨ev, Hev⟩ : ∃ L, Hid (L = Mon.splitE n zs) := ⟨_, Lib.hid rfl⟩
  have HS1 : Hid (∀ W, IsInts W ao zs → Calls Tryd.prog 6 #[.int .i64 n, .slice ao len cap] W fun e w' => ∃ ao' cap', e = .returned (.tuple #[.slice ao' L cap', .int .i64 ev]) ∧ Below W.heap.size W w' ∧ IsInts w' ao' (Mon.splitV n zs)) := Lib.hid fun W h => by
    rw [Hlen.out, HL.out, Hev.out]; exact split_any n zs (by omega) ao cap W h
  have HS2 : Hid (∀ W, IsInts W ao zs → Calls Tryd.prog 7 #[.int .i64 n, .slice ao len cap] W fun e w' => ∃ ao' cap', e = .returned (.tuple #[.slice ao' L cap', .int .i64 ev]) ∧ Below W.heap.size W w' ∧ IsInts w' ao' (Mon.splitV n zs)) := Lib.hid fun W h => by
    rw [Hlen.out, HL.out, Hev.out]; exact refSplit_any n zs (by omega) ao cap W h
  have HI : Hid (∀ (ao bo : Option Addr) (ca cb : Nat) W, IsInts W ao (Mon.splitV n zs) → IsInts W bo (Mon.splitV n zs) → Calls Tryd.prog 14 #[.slice ao L ca, .slice bo L cb] W fun e w' => e = .returned (.bool true) ∧ Below W.heap.size W w') := Lib.hid fun ao bo ca cb W h1 h2 => by
    have hle : (Mon.splitV n zs).length ≤ 9223372036854775807 := by
      unfold Mon.splitV; split
      · rw [shares_len]; omega
      · simp
    have := ints_any (Mon.splitV n zs) (Mon.splitV n zs) hle ao bo ca cb W h1 h2
    rw [decide_eq_true rfl] at this
    rw [HL.out]; exact this
  obtain ⟨pv, Hpv⟩ : ∃ L, Hid (L = if Mon.pctB n p then Mon.pct n p else 0) := ⟨_, Lib.hid rfl⟩
  obtain ⟨pe, Hpe⟩ : ∃ L : Int, Hid (L = if Mon.pctB n p then 0 else 1) := ⟨_, Lib.hid rfl⟩
  have HP1 : Hid (∀ W, Calls Tryd.prog 8 #[.int .i64 n, .int .i64 p] W fun e w' => e = .returned (.tuple #[.int .i64 pv, .int .i64 pe]) ∧ W = w') := Lib.hid fun W => by
    rw [Hpv.out, Hpe.out]; exact percent_any n p W
  have HP2 : Hid (∀ W, Calls Tryd.prog 9 #[.int .i64 n, .int .i64 p] W fun e w' => e = .returned (.tuple #[.int .i64 pv, .int .i64 pe]) ∧ W = w') := Lib.hid fun W => by
    rw [Hpv.out, Hpe.out]; exact refPercent_any n p W
  obtain ⟨T, t, hT1, hT2⟩ := text_all n
  have HT1 := Lib.hid hT1
  have HT2 := Lib.hid hT2
  obtain ⟨x, Hx⟩ : ∃ L, Hid (L = parseN s) := ⟨_, Lib.hid rfl⟩
  obtain ⟨y, Hy⟩ : ∃ L, Hid (L = parseE s) := ⟨_, Lib.hid rfl⟩
  have HQ1 : Hid (∀ W, Tab W → Calls Tryd.prog 12 #[.string s] W fun e w' => e = .returned (.tuple #[.int .i64 x, .int .i64 y]) ∧ Below W.heap.size W w') := Lib.hid fun W hW => by
    rw [Hx.out, Hy.out]; exact parse_any s (by omega) W hW
  have HQ2 : Hid (∀ W, Calls Tryd.prog 13 #[.string s] W fun e w' => e = .returned (.tuple #[.int .i64 x, .int .i64 y]) ∧ W = w') := Lib.hid fun W => by
    rw [Hx.out, Hy.out]; exact refParse_any s (by omega) W
  rw [← Hlen.out] at hl ⊢
  have h1 : ¬ (40 : Int) < len := by omega
  have h2 : ¬ (100 : Int) < s.size := by omega
  clear hz ht hT1 hT2
  go_enter Tryd.func3, Tryd.ntmps3
  go_wp2_with fail
  refine HH.out.mono ?_
  rintro e v1 ⟨rfl, hb⟩
  have HB := Lib.hid hb
  clear hb
  go_wp2_with fail
  refine (HS1.out _ (HZ.out.below HB.out)).mono ?_
  rintro e v2 ⟨a1, c1, rfl, hb, hi⟩
  have HI1 := Lib.hid hi
  replace HB := Lib.hid (below_step HB.out hb)
  clear hb hi
  go_wp2_with fail
  refine (HS2.out _ (HZ.out.below HB.out)).mono ?_
  rintro e v3 ⟨a2, c2, rfl, hb, hi⟩
  have HI2 := Lib.hid hi
  replace HI1 := Lib.hid (HI1.out.below hb)
  replace HB := Lib.hid (below_step HB.out hb)
  clear hb hi
  go_wp2_with fail
  refine (HP1.out _).mono ?_
  rintro e _ ⟨rfl, rfl⟩
  go_wp2_with fail
  refine (HP2.out _).mono ?_
  rintro e _ ⟨rfl, rfl⟩
  go_wp2_with fail
  refine (HT1.out _ (HTab.out.below HB.out)).mono ?_
  rintro e v4 ⟨rfl, hb⟩
  replace HI1 := Lib.hid (HI1.out.below hb)
  replace HI2 := Lib.hid (HI2.out.below hb)
  replace HB := Lib.hid (below_step HB.out hb)
  clear hb
  go_wp2_with fail
  refine (HT2.out _).mono ?_
  rintro e _ ⟨rfl, rfl⟩
  go_wp2_with fail
  refine (HQ1.out _ (HTab.out.below HB.out)).mono ?_
  rintro e v5 ⟨rfl, hb⟩
  replace HI1 := Lib.hid (HI1.out.below hb)
  replace HI2 := Lib.hid (HI2.out.below hb)
  replace HB := Lib.hid (below_step HB.out hb)
  clear hb
  go_wp2_with fail
  refine (HQ2.out _).mono ?_
  rintro e _ ⟨rfl, rfl⟩
  go_wp2_with fail
  refine (HI.out _ _ _ _ _ HI1.out HI2.out).mono ?_
  rintro e v6 ⟨rfl, hb⟩
  replace HB := Lib.hid (below_step HB.out hb)
  clear hb
  have q1 : (ev == ev) = true := beq_self_eq_true _
  have q2 : (pv == pv) = true := beq_self_eq_true _
  have q3 : (pe == pe) = true := beq_self_eq_true _
  have q4 : (T.toList == T.toList) = true := beq_self_eq_true _
  have q5 : (t == t) = true := beq_self_eq_true _
  have q6 : (x == x) = true := beq_self_eq_true _
  have q7 : (y == y) = true := beq_self_eq_true _
  go_wp2
  go_ret
  exact ⟨rfl, HB.out⟩

theorem lawMoney_any (n : Int) (ao : Option Addr) (zs : List Int) (cap : Nat) (hn : zs.length ≤ 140737488351232) (p : Int) (s : ByteArray) (hs : s.size ≤ 140737488351232) (w : World) (hz : IsInts w ao zs) (_ : ∀ z ∈ zs, (Lit.int .i64 z).wf = true) (ht : Tab w) :
    Calls Tryd.prog 3 #[.int .i64 n, .slice ao zs.length cap, .int .i64 p, .string s] w fun e w' => e = .returned (.bool true) ∧ Below w.heap.size w w' := by
  by_cases h1 : zs.length ≤ 40
  · by_cases h2 : s.size ≤ 100
    · exact lawMoney_main n p zs s h1 h2 ao cap w hz ht
    · exact lawMoney_skip n p zs.length s (Or.inr ⟨h1, by omega⟩) hn hs ao cap w ht
  · exact lawMoney_skip n p zs.length s (Or.inl (by omega)) hn hs ao cap w ht

end Go.Proofs.YtijnnfioggjaeaaDoor
