/- The statement that package migrate agrees with its reference: its walk. -/
import Derived.Test.YtbiibpjjjjedgaaMigRefC
namespace Go.Proofs.Ytbiibpjjjjedgaa
open Go.RowKit

set_option maxHeartbeats 2000000 in
theorem lawMigMatches_long (l h c d : Int) (n : Nat) (hn : 70 < n) (hn2 : n ≤ 9223372036854775807) (ao : Option Addr) (cap : Nat) (w : World) :
    Calls Try.prog 3 #[.agg #[.int .i64 l, .int .i64 h], .int .i64 c, .int .i64 d, .slice ao n cap] w fun e w' => e = .returned (.bool true) ∧ Below w.heap.size w w' := by
  have h1 : (70 : Int) < n := by omega
  go_enter Try.func3, Try.ntmps3
  go_wp2_with fail
  refine (head25_any _).mono ?_
  rintro e v1 ⟨rfl, hb⟩
  have hB := below_step (below_alloc (Below.refl _ w) _) hb
  go_wp2
  go_ret
  exact ⟨rfl, hB⟩

set_option maxRecDepth 100000 in
set_option maxHeartbeats 8000000 in
theorem lawMigMatches_short (l h c d : Int) (zs : List Int) (hn : zs.length ≤ 70) (ao : Option Addr) (cap : Nat) (w : World) (hz : IsInts w ao zs) :
    Calls Try.prog 3 #[.agg #[.int .i64 l, .int .i64 h], .int .i64 c, .int .i64 d, .slice ao zs.length cap] w fun e w' => e = .returned (.bool true) ∧ Below w.heap.size w w' := by
  obtain ⟨n, Hn⟩ : ∃ n, Hid (n = zs.length) := ⟨_, Lib.hid rfl⟩
  have HC1 : Hid (∀ W, IsInts W ao zs → Calls Try.prog 13 #[.agg #[.int .i64 l, .int .i64 h], .slice ao n cap] W
      fun e w' => e = .returned (.tuple #[.agg #[.int .i64 (Mig.chain l h zs).1, .int .i64 (Mig.chain l h zs).2.1], .int .i64 (Mig.chain l h zs).2.2]) ∧ Below W.heap.size W w') := Lib.hid (fun W hW => by rw [Hn.out]; exact chain_any l h zs (by omega) ao cap W hW)
  have HC2 : Hid (∀ W, IsInts W ao zs → Calls Try.prog 14 #[.agg #[.int .i64 l, .int .i64 h], .slice ao n cap] W
      fun e w' => e = .returned (.tuple #[.agg #[.int .i64 (Mig.chain l h zs).1, .int .i64 (Mig.chain l h zs).2.1], .int .i64 (Mig.chain l h zs).2.2]) ∧ Below W.heap.size W w') := Lib.hid (fun W hW => by rw [Hn.out]; exact refChain_any l h zs (by omega) ao cap W hW)
  have HS1 := Lib.hid (fun W => scale_any l h c d W)
  have HS2 := Lib.hid (fun W => refScale_any l h c d W)
  have HL1 := Lib.hid (fun W => left_any l h c W)
  have HL2 := Lib.hid (fun W => refLeft_any l h c W)
  rw [← Hn.out] at hn ⊢
  obtain ⟨c0, H0⟩ : ∃ x, Hid (x = (Mig.chain l h zs).1) := ⟨_, Lib.hid rfl⟩
  obtain ⟨c1, H1⟩ : ∃ x, Hid (x = (Mig.chain l h zs).2.1) := ⟨_, Lib.hid rfl⟩
  obtain ⟨c2, H2⟩ : ∃ x, Hid (x = (Mig.chain l h zs).2.2) := ⟨_, Lib.hid rfl⟩
  rw [← H0.out, ← H1.out, ← H2.out] at HC1 HC2
  obtain ⟨s0, H3⟩ : ∃ x, Hid (x = Mig.lo l h c d) := ⟨_, Lib.hid rfl⟩
  obtain ⟨s1, H4⟩ : ∃ x, Hid (x = Mig.hi l h c d) := ⟨_, Lib.hid rfl⟩
  obtain ⟨s2, H5⟩ : ∃ x, Hid (x = Mig.err l h c d) := ⟨_, Lib.hid rfl⟩
  rw [← H3.out, ← H4.out, ← H5.out] at HS1 HS2
  obtain ⟨l0, H6⟩ : ∃ x, Hid (x = Mig.leftLo l h c) := ⟨_, Lib.hid rfl⟩
  obtain ⟨l1, H7⟩ : ∃ x, Hid (x = Mig.leftHi l h c) := ⟨_, Lib.hid rfl⟩
  obtain ⟨l2, H8⟩ : ∃ x, Hid (x = Mig.leftErr l h c) := ⟨_, Lib.hid rfl⟩
  rw [← H6.out, ← H7.out, ← H8.out] at HL1 HL2
  have HZ0 := Lib.hid hz
  have hn' : ¬ (70 : Int) < n := by omega
  clear hz
  go_enter Try.func3, Try.ntmps3
  go_wp2_with fail
  refine (head25_any _).mono ?_
  rintro e v1 ⟨rfl, hb⟩
  have HA := Lib.hid ((Two.new w l h 23 rfl).below hb)
  have HB := Lib.hid (below_step (below_alloc (Below.refl _ w) (.cells #[.int .i64 l, .int .i64 h] 23)) hb)
  obtain ⟨f1, f2⟩ := HA.out
  clear hb
  go_wp2_with fail
  refine (HS1.out _).mono ?_
  rintro e v2 ⟨rfl, hb⟩
  replace HA := Lib.hid ((HA.out.below hb).alloc (.cells #[.int .i64 s0, .int .i64 s1] 23))
  have HD1 := Lib.hid (Two.new v2 s0 s1 23 rfl)
  replace HB := Lib.hid (below_alloc (below_step HB.out hb) (.cells #[.int .i64 s0, .int .i64 s1] 23))
  clear hb f1 f2
  obtain ⟨f1, f2⟩ := HA.out
  go_wp2_with fail
  refine (HS2.out _).mono ?_
  rintro e v3 ⟨rfl, hb⟩
  replace HA := Lib.hid ((HA.out.below hb).alloc (.cells #[.int .i64 s0, .int .i64 s1] 23))
  replace HD1 := Lib.hid ((HD1.out.below hb).alloc (.cells #[.int .i64 s0, .int .i64 s1] 23))
  have HD2 := Lib.hid (Two.new v3 s0 s1 23 rfl)
  replace HB := Lib.hid (below_alloc (below_step HB.out hb) (.cells #[.int .i64 s0, .int .i64 s1] 23))
  clear hb f1 f2
  obtain ⟨f1, f2⟩ := HA.out
  go_wp2_with fail
  refine (HC1.out _ (HZ0.out.below HB.out)).mono ?_
  rintro e v4 ⟨rfl, hb⟩
  replace HA := Lib.hid ((HA.out.below hb).alloc (.cells #[.int .i64 c0, .int .i64 c1] 23))
  replace HD1 := Lib.hid ((HD1.out.below hb).alloc (.cells #[.int .i64 c0, .int .i64 c1] 23))
  replace HD2 := Lib.hid ((HD2.out.below hb).alloc (.cells #[.int .i64 c0, .int .i64 c1] 23))
  have HD3 := Lib.hid (Two.new v4 c0 c1 23 rfl)
  replace HB := Lib.hid (below_alloc (below_step HB.out hb) (.cells #[.int .i64 c0, .int .i64 c1] 23))
  clear hb f1 f2
  obtain ⟨f1, f2⟩ := HA.out
  go_wp2_with fail
  refine (HC2.out _ (HZ0.out.below HB.out)).mono ?_
  rintro e v5 ⟨rfl, hb⟩
  replace HA := Lib.hid ((HA.out.below hb).alloc (.cells #[.int .i64 c0, .int .i64 c1] 23))
  replace HD1 := Lib.hid ((HD1.out.below hb).alloc (.cells #[.int .i64 c0, .int .i64 c1] 23))
  replace HD2 := Lib.hid ((HD2.out.below hb).alloc (.cells #[.int .i64 c0, .int .i64 c1] 23))
  replace HD3 := Lib.hid ((HD3.out.below hb).alloc (.cells #[.int .i64 c0, .int .i64 c1] 23))
  have HD4 := Lib.hid (Two.new v5 c0 c1 23 rfl)
  replace HB := Lib.hid (below_alloc (below_step HB.out hb) (.cells #[.int .i64 c0, .int .i64 c1] 23))
  clear hb f1 f2
  obtain ⟨f1, f2⟩ := HA.out
  go_wp2_with fail
  refine (HL1.out _).mono ?_
  rintro e v6 ⟨rfl, hb⟩
  replace HA := Lib.hid ((HA.out.below hb).alloc (.cells #[.int .i64 l0, .int .i64 l1] 23))
  replace HD1 := Lib.hid ((HD1.out.below hb).alloc (.cells #[.int .i64 l0, .int .i64 l1] 23))
  replace HD2 := Lib.hid ((HD2.out.below hb).alloc (.cells #[.int .i64 l0, .int .i64 l1] 23))
  replace HD3 := Lib.hid ((HD3.out.below hb).alloc (.cells #[.int .i64 l0, .int .i64 l1] 23))
  replace HD4 := Lib.hid ((HD4.out.below hb).alloc (.cells #[.int .i64 l0, .int .i64 l1] 23))
  have HD5 := Lib.hid (Two.new v6 l0 l1 23 rfl)
  replace HB := Lib.hid (below_alloc (below_step HB.out hb) (.cells #[.int .i64 l0, .int .i64 l1] 23))
  clear hb f1 f2
  obtain ⟨f1, f2⟩ := HA.out
  go_wp2_with fail
  refine (HL2.out _).mono ?_
  rintro e v7 ⟨rfl, hb⟩
  obtain ⟨p1, p2⟩ := (HD1.out.below hb).alloc (.cells #[.int .i64 l0, .int .i64 l1] 23)
  obtain ⟨p3, p4⟩ := (HD2.out.below hb).alloc (.cells #[.int .i64 l0, .int .i64 l1] 23)
  obtain ⟨p5, p6⟩ := (HD3.out.below hb).alloc (.cells #[.int .i64 l0, .int .i64 l1] 23)
  obtain ⟨p7, p8⟩ := (HD4.out.below hb).alloc (.cells #[.int .i64 l0, .int .i64 l1] 23)
  obtain ⟨p9, p10⟩ := (HD5.out.below hb).alloc (.cells #[.int .i64 l0, .int .i64 l1] 23)
  obtain ⟨p11, p12⟩ := Two.new v7 l0 l1 23 rfl
  replace HB := Lib.hid (below_alloc (below_step HB.out hb) (.cells #[.int .i64 l0, .int .i64 l1] 23))
  clear hb f1 f2
  go_wp2
  go_ret
  exact ⟨rfl, HB.out⟩

theorem lawMigMatches_any (l h c d : Int) (zs : List Int) (hn : zs.length ≤ 9223372036854775807) (ao : Option Addr) (cap : Nat) (w : World) (hz : IsInts w ao zs) :
    Calls Try.prog 3 #[.agg #[.int .i64 l, .int .i64 h], .int .i64 c, .int .i64 d, .slice ao zs.length cap] w fun e w' => e = .returned (.bool true) ∧ Below w.heap.size w w' := by
  by_cases h1 : zs.length ≤ 70
  · exact lawMigMatches_short l h c d zs h1 ao cap w hz
  · exact lawMigMatches_long l h c d zs.length (by omega) hn ao cap w

end Go.Proofs.Ytbiibpjjjjedgaa
