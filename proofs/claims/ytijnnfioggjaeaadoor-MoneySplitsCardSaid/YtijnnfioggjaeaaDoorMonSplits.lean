/- The statement on shares: its walk. -/
import Derived.Test.YtijnnfioggjaeaaDoorMonHead
import Derived.Test.YtijnnfioggjaeaaDoorMonTotal
import Derived.Test.YtijnnfioggjaeaaDoorMonSplitsMath
import Derived.Test.YtijnnfioggjaeaaDoorMonSplitsS
import Derived.Test.YtijnnfioggjaeaaDoorMonSplitsB
namespace Go.Proofs.YtijnnfioggjaeaaDoor
open Go.RowKit

set_option maxRecDepth 100000 in
set_option maxHeartbeats 2000000 in
theorem lawSplits_long (n : Int) (len : Nat) (hl : 16 < len) (hl2 : len ≤ 140737488351232) (ao : Option Addr) (cap : Nat) (w : World) (ht : Tab w) :
    Calls Tryd.prog 4 #[.int .i64 n, .slice ao len cap] w fun e w' => e = .returned (.bool true) ∧ Below w.heap.size w w' := by
  have HH := Lib.hid (head03_any w ht)
  have h1 : (16 : Int) < len := by omega
  clear ht
  go_enter Tryd.func4, Tryd.ntmps4
  go_wp2_with fail
  refine HH.out.mono ?_
  rintro e v1 ⟨rfl, hb⟩
  go_wp2
  go_ret
  exact ⟨rfl, hb⟩

set_option maxRecDepth 100000 in
set_option maxHeartbeats 4000000 in
theorem lawSplits_bad (n : Int) (zs : List Int) (hl : zs.length ≤ 16) (hbad : Mon.splitB n zs = false) (ao : Option Addr) (cap : Nat) (w : World) (hz : IsInts w ao zs) (ht : Tab w) :
    Calls Tryd.prog 4 #[.int .i64 n, .slice ao zs.length cap] w fun e w' => e = .returned (.bool true) ∧ Below w.heap.size w w' := by
  obtain ⟨len, Hlen⟩ : ∃ len, Hid (len = zs.length) := ⟨_, Lib.hid rfl⟩
  have HH := Lib.hid (head03_any w ht)
  have HZ := Lib.hid hz
  obtain ⟨t, Ht⟩ : ∃ t, Hid (t = Mon.totR zs) := ⟨_, Lib.hid rfl⟩
  have HS : Hid (∀ W, IsInts W ao zs → Calls Tryd.prog 6 #[.int .i64 n, .slice ao len cap] W fun e w' => e = .returned (.tuple #[.slice none 0 0, .int .i64 1]) ∧ W = w') := Lib.hid fun W h => by
    rw [Hlen.out]; exact split_no n zs (by omega) hbad ao cap W h
  have HT : Hid (∀ W, IsInts W ao zs → Calls Tryd.prog 15 #[.slice ao len cap] W fun e w' => e = .returned (.int .i64 t) ∧ W = w') := Lib.hid fun W h => by
    rw [Hlen.out, Ht.out]; exact refTotal_any zs (by omega) ao cap W h
  have hc : t < 0 ∨ (¬ t < 0 ∧ n < 0) ∨ (¬ t < 0 ∧ ¬ n < 0 ∧ 1000000000000 < n) := by
    rw [Ht.out]
    unfold Mon.totR
    unfold Mon.splitB at hbad
    cases htb : Mon.totB zs
    · exact Or.inl (by rw [if_neg (by simp)]; decide)
    · rw [htb, Bool.true_and] at hbad
      rw [if_pos rfl]
      unfold Mon.totB at htb
      rw [Bool.and_eq_true, decide_eq_true_eq] at htb
      have h1 : ¬ (0 ≤ n ∧ n ≤ 1000000000000) := fun h => by rw [Mon.amt_iff.2 h] at hbad; cases hbad
      have h2 := htb.2
      omega
  rw [← Hlen.out] at hl ⊢
  have h16 : ¬ (16 : Int) < len := by omega
  clear hz ht hbad
  rcases hc with h1 | ⟨h1, h2⟩ | ⟨h1, h2, h3⟩
  all_goals
    go_enter Tryd.func4, Tryd.ntmps4
    go_wp2_with fail
    refine HH.out.mono ?_
    rintro e v1 ⟨rfl, hb⟩
    go_wp2_with fail
    refine (HS.out _ (HZ.out.below hb)).mono ?_
    rintro e _ ⟨rfl, rfl⟩
    go_wp2_with fail
    refine (HT.out _ (HZ.out.below hb)).mono ?_
    rintro e _ ⟨rfl, rfl⟩
    go_wp2
    go_ret
    first
    | exact ⟨rfl, hb⟩
    | (refine ⟨?_, hb⟩; show Ending.returned (.bool (decide (1000000000000 < n))) = _; rw [decide_eq_true (show 1000000000000 < n by omega)])

theorem lawSplits_any (n : Int) (ao : Option Addr) (zs : List Int) (cap : Nat) (hl : zs.length ≤ 140737488351232) (w : World) (hz : IsInts w ao zs) (_ : ∀ z ∈ zs, (Lit.int .i64 z).wf = true) (ht : Tab w) :
    Calls Tryd.prog 4 #[.int .i64 n, .slice ao zs.length cap] w fun e w' => e = .returned (.bool true) ∧ Below w.heap.size w w' := by
  by_cases h : zs.length ≤ 16
  · cases hB : Mon.splitB n zs
    · exact lawSplits_bad n zs h hB ao cap w hz ht
    · obtain ⟨⟨h1, h2, h3⟩, h4, h5⟩ := Mon.splitB_iff.1 hB
      have hpos : 1 ≤ zs.length := by
        cases zs with
        | nil => simp at h3
        | cons a l => simp
      have hbd := Mon.sum_bd zs h2
      rcases hz with rfl | ⟨bk, off, rfl, hbk, hc⟩
      · simp at hpos
      · by_cases hle : n ≤ 1000000000
        · exact lawSplits_small n zs.sum zs zs.length rfl hpos h1 h4 h5 h2 rfl h3 (by omega) bk off cap w hbk hc hB hle ht
        · exact lawSplits_big n zs.sum zs zs.length rfl hpos h1 h4 h5 h2 rfl h3 (by omega) bk off cap w hbk hc hB hle ht
  · exact lawSplits_long n zs.length (by omega) hl ao cap w ht

end Go.Proofs.YtijnnfioggjaeaaDoor
