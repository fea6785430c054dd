/- The statement on the texts of amounts: its walk. -/
import Derived.Test.YtbiibpjjjjedgaaDoorMonHead
namespace Go.Proofs.YtbiibpjjjjedgaaDoor
open Go.RowKit

set_option maxRecDepth 100000 in
set_option maxHeartbeats 2000000 in
theorem lawTexts_long (n : Int) (s : ByteArray) (hs : 100 < s.size) (w : World) (ht : Tab w) :
    Calls Tryd.prog 7 #[.int .i64 n, .string s] w fun e w' => e = .returned (.bool true) ∧ Below w.heap.size w w' := by
  have HH := Lib.hid (head03_any w ht)
  have h1 : (100 : Int) < s.size := by omega
  clear ht
  go_enter Tryd.func7, Tryd.ntmps7
  go_wp2_with fail
  refine HH.out.mono ?_
  rintro e v1 ⟨rfl, hb⟩
  go_wp2
  go_ret
  exact ⟨rfl, hb⟩

/-- How the statement goes on behind its first part. -/
theorem parse_cases (s : ByteArray) (hsz : s.size ≤ 9223372036854775807) :
    (∀ W, Tab W → Calls Tryd.prog 15 #[.string s] W fun e w' => e = .returned (.tuple #[.int .i64 0, .int .i64 8]) ∧ Below W.heap.size W w') ∨
    ∃ v : Nat, v ≤ 1000000000000 ∧ (∀ W, Tab W → Calls Tryd.prog 15 #[.string s] W fun e w' => e = .returned (.tuple #[.int .i64 v, .int .i64 0]) ∧ Below W.heap.size W w') ∧
      (∀ W, Tab W → Calls Tryd.prog 13 #[.int .i64 v] W fun e w' => e = .returned (.tuple #[.string s, .int .i64 0]) ∧ Below W.heap.size W w') := by
  by_cases h : Mon.isText s.data.toList
  · refine Or.inr ⟨Mon.digV s.data.toList, h.1, fun W hW => ?_, fun W hW => ?_⟩
    · have := parse_any s hsz W hW
      unfold parseN parseE at this
      rw [if_pos h, if_pos h] at this
      exact this
    · have := text_yes (Mon.digV s.data.toList) h.1 W hW
      rw [← h.2] at this
      exact this
  · refine Or.inl fun W hW => ?_
    have := parse_any s hsz W hW
    unfold parseN parseE at this
    rw [if_neg h, if_neg h] at this
    exact this

set_option maxRecDepth 100000 in
set_option maxHeartbeats 4000000 in
theorem lawTexts_good (n : Nat) (hn : n ≤ 1000000000000) (s : ByteArray) (hs : s.size ≤ 100) (w : World) (ht : Tab w) :
    Calls Tryd.prog 7 #[.int .i64 n, .string s] w fun e w' => e = .returned (.bool true) ∧ Below w.heap.size w w' := by
  have HH := Lib.hid (head03_any w ht)
  have HT := Lib.hid ht
  have h1 : ¬ (100 : Int) < s.size := by omega
  obtain ⟨T, HTt⟩ : ∃ T : ByteArray, Hid (T = ⟨(Mon.mtext n).toArray⟩) := ⟨_, Lib.hid rfl⟩
  have HX : Hid (∀ W, Tab W → Calls Tryd.prog 13 #[.int .i64 n] W fun e w' => e = .returned (.tuple #[.string T, .int .i64 0]) ∧ Below W.heap.size W w') := Lib.hid fun W hW => by rw [HTt.out]; exact text_yes n hn W hW
  have hlen : 4 ≤ T.size ∧ T.size ≤ 14 := by have := Mon.mtext_len n hn; rw [HTt.out]; exact this
  have HY : Hid (∀ W, Tab W → Calls Tryd.prog 15 #[.string T] W fun e w' => e = .returned (.tuple #[.int .i64 n, .int .i64 0]) ∧ Below W.heap.size W w') := Lib.hid fun W hW => by
    have := parse_any T (by omega) W hW
    have e : T.data.toList = Mon.mtext n := by rw [HTt.out]
    unfold parseN parseE at this
    rw [e, if_pos (Mon.isText_of n hn), if_pos (Mon.isText_of n hn), Mon.mtext_value] at this
    exact this
  have h4 : ¬ (T.size : Int) < 4 := by omega
  have hn' : (n : Int) ≤ 1000000000000 := by omega
  have HC := Lib.hid (parse_cases s (by omega))
  clear ht hlen
  rcases HC.out with HZ | ⟨v, hv, HZ, HU⟩
  · replace HZ := Lib.hid HZ
    go_enter Tryd.func7, Tryd.ntmps7
    go_wp2_with fail
    refine HH.out.mono ?_
    rintro e v1 ⟨rfl, hb⟩
    have HB := Lib.hid hb
    clear hb
    go_wp2_with fail
    refine (HX.out _ (HT.out.below HB.out)).mono ?_
    rintro e v2 ⟨rfl, hb⟩
    replace HB := Lib.hid (HB.out.trans (hb.mono HB.out.size))
    clear hb
    go_wp2_with fail
    refine (HY.out _ (HT.out.below HB.out)).mono ?_
    rintro e v3 ⟨rfl, hb⟩
    replace HB := Lib.hid (HB.out.trans (hb.mono HB.out.size))
    clear hb
    go_wp2_with fail
    refine (HZ.out _ (HT.out.below HB.out)).mono ?_
    rintro e v4 ⟨rfl, hb⟩
    replace HB := Lib.hid (HB.out.trans (hb.mono HB.out.size))
    clear hb
    go_wp2
    go_ret
    exact ⟨rfl, HB.out⟩
  · replace HZ := Lib.hid HZ
    replace HU := Lib.hid HU
    have hv' : (v : Int) ≤ 1000000000000 := by omega
    go_enter Tryd.func7, Tryd.ntmps7
    go_wp2_with fail
    refine HH.out.mono ?_
    rintro e v1 ⟨rfl, hb⟩
    have HB := Lib.hid hb
    clear hb
    go_wp2_with fail
    refine (HX.out _ (HT.out.below HB.out)).mono ?_
    rintro e v2 ⟨rfl, hb⟩
    replace HB := Lib.hid (HB.out.trans (hb.mono HB.out.size))
    clear hb
    go_wp2_with fail
    refine (HY.out _ (HT.out.below HB.out)).mono ?_
    rintro e v3 ⟨rfl, hb⟩
    replace HB := Lib.hid (HB.out.trans (hb.mono HB.out.size))
    clear hb
    go_wp2_with fail
    refine (HZ.out _ (HT.out.below HB.out)).mono ?_
    rintro e v4 ⟨rfl, hb⟩
    replace HB := Lib.hid (HB.out.trans (hb.mono HB.out.size))
    clear hb
    go_wp2_with fail
    refine (HU.out _ (HT.out.below HB.out)).mono ?_
    rintro e v5 ⟨rfl, hb⟩
    replace HB := Lib.hid (HB.out.trans (hb.mono HB.out.size))
    clear hb
    go_wp2
    go_ret
    exact ⟨rfl, HB.out⟩

set_option maxRecDepth 100000 in
set_option maxHeartbeats 4000000 in
theorem lawTexts_bad (n : Int) (hn : ¬ (0 ≤ n ∧ n ≤ 1000000000000)) (s : ByteArray) (hs : s.size ≤ 100) (w : World) (ht : Tab w) :
    Calls Tryd.prog 7 #[.int .i64 n, .string s] w fun e w' => e = .returned (.bool true) ∧ Below w.heap.size w w' := by
  have HH := Lib.hid (head03_any w ht)
  have HT := Lib.hid ht
  have h1 : ¬ (100 : Int) < s.size := by omega
  have HX := Lib.hid (fun W => text_no n hn W)
  have hc : n < 0 ∨ 0 ≤ n ∧ ¬ n ≤ 1000000000000 := by omega
  have HC := Lib.hid (parse_cases s (by omega))
  clear ht hn
  rcases HC.out with HZ | ⟨v, hv, HZ, HU⟩
  · replace HZ := Lib.hid HZ
    rcases hc with h2 | ⟨h2, h3⟩
    all_goals
      go_enter Tryd.func7, Tryd.ntmps7
      go_wp2_with fail
      refine HH.out.mono ?_
      rintro e v1 ⟨rfl, hb⟩
      have HB := Lib.hid hb
      clear hb
      go_wp2_with fail
      refine (HX.out _).mono ?_
      rintro e _ ⟨rfl, rfl⟩
      go_wp2_with fail
      refine (HZ.out _ (HT.out.below HB.out)).mono ?_
      rintro e v4 ⟨rfl, hb⟩
      replace HB := Lib.hid (HB.out.trans (hb.mono HB.out.size))
      clear hb
      go_wp2
      go_ret
      first
      | exact ⟨rfl, HB.out⟩
      | (refine ⟨?_, HB.out⟩; show Ending.returned (.bool (!decide (n ≤ 1000000000000))) = _; rw [decide_eq_false (show ¬ n ≤ 1000000000000 by omega)]; rfl)
  · replace HZ := Lib.hid HZ
    replace HU := Lib.hid HU
    have hv' : (v : Int) ≤ 1000000000000 := by omega
    clear hc
    go_enter Tryd.func7, Tryd.ntmps7
    go_wp2_with fail
    refine HH.out.mono ?_
    rintro e v1 ⟨rfl, hb⟩
    have HB := Lib.hid hb
    clear hb
    go_wp2_with fail
    refine (HX.out _).mono ?_
    rintro e _ ⟨rfl, rfl⟩
    go_wp2_with fail
    refine (HZ.out _ (HT.out.below HB.out)).mono ?_
    rintro e v4 ⟨rfl, hb⟩
    replace HB := Lib.hid (HB.out.trans (hb.mono HB.out.size))
    clear hb
    go_wp2_with fail
    refine (HU.out _ (HT.out.below HB.out)).mono ?_
    rintro e v5 ⟨rfl, hb⟩
    replace HB := Lib.hid (HB.out.trans (hb.mono HB.out.size))
    clear hb
    go_wp2
    go_ret
    exact ⟨rfl, HB.out⟩

theorem lawTexts_any (n : Int) (s : ByteArray) (_ : s.size ≤ 140737488351232) (w : World) (ht : Tab w) :
    Calls Tryd.prog 7 #[.int .i64 n, .string s] w fun e w' => e = .returned (.bool true) ∧ Below w.heap.size w w' := by
  by_cases hs : s.size ≤ 100
  · by_cases hn : 0 ≤ n ∧ n ≤ 1000000000000
    · obtain ⟨k, rfl⟩ : ∃ k : Nat, n = k := ⟨n.toNat, by omega⟩
      exact lawTexts_good k (by omega) s hs w ht
    · exact lawTexts_bad n hn s hs w ht
  · exact lawTexts_long n s (by omega) w ht

end Go.Proofs.YtbiibpjjjjedgaaDoor
