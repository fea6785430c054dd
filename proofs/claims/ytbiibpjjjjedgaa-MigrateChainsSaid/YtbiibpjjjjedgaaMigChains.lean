/- The statement that a chain of limits may be cut, and that one step is at least as exact: its walk. -/
import Derived.Test.YtbiibpjjjjedgaaMigHead
import Derived.Test.YtbiibpjjjjedgaaMigChain
import Derived.Test.YtbiibpjjjjedgaaMigChainsMath
import Derived.Test.YtbiibpjjjjedgaaTwo
import Derived.Test.YtbiibpjjjjedgaaFreshT
import Derived.Test.YtbiibpjjjjedgaaIvlFresh
namespace Go.Proofs.Ytbiibpjjjjedgaa
open Go.RowKit Go.Shelf

set_option maxRecDepth 100000 in
set_option maxHeartbeats 8000000 in
theorem lawChains_main (l h a0 a1 ae : Int) (zs : List Int) (n k : Nat) (x : Int) (hn1 : 1 ≤ n) (hn2 : n ≤ 60) (hk : k < n) (hx : x.tmod n = k) (hx0 : 0 ≤ x ∧ x ≤ 255) (bk off cap : Nat) (hcap1 : n ≤ cap) (hcap2 : cap ≤ 9223372036854775807) (w : World) (hbk : bk < w.heap.size)
    (f0 f1 fe r0 r1 re o0 o1 oe z0x z1 : Int) (hz0 : ∀ W, Below w.heap.size w W → W.cell? ⟨bk, off, none⟩ = some (.int .i64 z0x)) (m : Nat) (hm : m + 1 = n) (hz1 : ∀ W, Below w.heap.size w W → W.cell? ⟨bk, off + m, none⟩ = some (.int .i64 z1))
    (HA : ∀ W, Below w.heap.size w W → Calls Try.prog 13 #[.agg #[.int .i64 l, .int .i64 h], .slice (some ⟨bk, off, none⟩) n cap] W fun e w' => e = .returned (.tuple #[.agg #[.int .i64 a0, .int .i64 a1], .int .i64 ae]) ∧ Below W.heap.size W w')
    (HF : ∀ W, Below w.heap.size w W → Calls Try.prog 13 #[.agg #[.int .i64 l, .int .i64 h], .slice (some ⟨bk, off, none⟩) (k + 1) cap] W fun e w' => e = .returned (.tuple #[.agg #[.int .i64 f0, .int .i64 f1], .int .i64 fe]) ∧ Below W.heap.size W w')
    (HR : ∀ W, Below w.heap.size w W → Calls Try.prog 13 #[.agg #[.int .i64 f0, .int .i64 f1], .slice (some ⟨bk, off + k, none⟩) (n - k) (cap - k)] W fun e w' => e = .returned (.tuple #[.agg #[.int .i64 r0, .int .i64 r1], .int .i64 re]) ∧ Below W.heap.size W w')
    (HO : ∀ W, Calls Try.prog 11 #[.agg #[.int .i64 l, .int .i64 h], .int .i64 z0x, .int .i64 z1] W fun e w' => e = .returned (.tuple #[.agg #[.int .i64 o0, .int .i64 o1], .int .i64 oe]) ∧ Below W.heap.size W w')
    (hbad : ae ≠ 0 → a0 = 0 ∧ a1 = 0) (hgood : ae = 0 → fe = 0 ∧ re = 0 ∧ r0 = a0 ∧ r1 = a1 ∧ oe = 0 ∧ a0 ≤ o0 ∧ o1 ≤ a1) :
    Calls Try.prog 7 #[.agg #[.int .i64 l, .int .i64 h], .slice (some ⟨bk, off, none⟩) n cap, .int .u8 x] w fun e w' => e = .returned (.bool true) ∧ Below w.heap.size w w' := by
  have KA := Lib.hid HA
  have KF := Lib.hid HF
  have KR := Lib.hid HR
  have KO := Lib.hid HO
  have K0 := Lib.hid hz0
  have K1 := Lib.hid hz1
  have Kb := Lib.hid hbad
  have Kg := Lib.hid hgood
  clear HA HF HR HO hz0 hz1 hbad hgood
  have g1 : ((n : Int) == 0) = false := by simp; omega
  have g2 : ¬ (60 : Int) < n := by omega
  obtain ⟨hx1, hx2⟩ := hx0
  go_enter Try.func7, Try.ntmps7
  go_wp2_with fail
  refine (head25_any _).mono ?_
  rintro e v1 ⟨rfl, hb⟩
  have HT := Lib.hid ((Two.new w l h 23 rfl).below hb)
  have HB := Lib.hid (below_step (below_alloc (Below.refl _ w) (.cells #[.int .i64 l, .int .i64 h] 23)) hb)
  obtain ⟨m1, m2⟩ := HT.out
  clear hb
  go_wp2_with fail
  refine (KA.out _ HB.out).mono ?_
  rintro e v2 ⟨rfl, hb⟩
  replace HT := Lib.hid ((HT.out.below hb).alloc (.cells #[.int .i64 a0, .int .i64 a1] 23))
  have HD := Lib.hid (Two.new v2 a0 a1 23 rfl)
  replace HB := Lib.hid (below_alloc (below_step HB.out hb) (.cells #[.int .i64 a0, .int .i64 a1] 23))
  clear hb m1 m2
  obtain ⟨m1, m2⟩ := HT.out
  go_wp2_with fail
  obtain ⟨W8, HW8⟩ : ∃ W8, Hid (W8 = v2.alloc (.cells #[.int .i64 a0, .int .i64 a1] 23)) := ⟨_, Lib.hid rfl⟩
  have hb1 : v2.heap.size < W8.heap.size := by rw [HW8.out]; exact size_alloc v2 _ ▸ Nat.lt_succ_self _
  rw [← HW8.out] at HT HD HB m1 m2 ⊢
  have hlt := HT.out.lt
  have q1 : IntKind.i64.wrap ((k : Int) + 1) = (k : Int) + 1 := by rw [IntKind.wrap_i64]; omega
  have q2 : (0 : Int) ≤ (k : Int) + 1 ∧ (k : Int) + 1 ≤ cap := ⟨by omega, by omega⟩
  apply wp_region_freshT 9 1 1 109 (fun _ => #[.int .i64 0, .int .i64 0]) (fun _ => #[.int .i64 f0, .int .i64 f1]) (fun _ => .int .i64 fe) _ (by kernel_rfl) (by kernel_rfl) rfl
  · intro w0 h0
    have z0 := h0.size
    have p3 : ∀ X : Grown w0, X.w.cell? ⟨w.heap.size, 0, none⟩ = some (.int .i64 l) := fun X => by rw [X.cell (by omega), h0.cell (p := ⟨w.heap.size, 0, none⟩) (by omega), m1]
    have p4 : ∀ X : Grown w0, X.w.cell? ⟨w.heap.size, 1, none⟩ = some (.int .i64 h) := fun X => by rw [X.cell (by omega), h0.cell (p := ⟨w.heap.size, 1, none⟩) (by omega), m2]
    have hB0 := below_step HB.out h0
    simp only [List.take_succ_cons, List.take_zero]
    repeat (go_big_quiet_step ((go_at_call 13; with_reducible exact grown_of (KF.out _ (below_step hB0 (Grown.below _))))))
    exact wpQuiet_nil rfl
  · intro j hj o ho
    have hj0 : j = 0 := by omega
    subst hj0
    simp only [List.getElem?_cons_succ, List.getElem?_cons_zero, Option.some.injEq] at ho
    subst ho
    exact ⟨_, fun ρ w' => run_alloc_ivl _ _ _ _ _ ρ w'⟩
  · intro j hj o ho A bb w' hP hV hle hz
    have hj0 : j = 0 := by omega
    subst hj0
    have h0 := (hz 0 (by decide)).1
    have h1 := (hz 1 (by decide)).1
    have g0 := (hz 0 (by decide)).2
    have g1 := (hz 1 (by decide)).2
    simp only [List.getElem?_cons_succ, List.getElem?_cons_zero, Option.some.injEq] at ho
    subst ho
    exact ⟨_, run_store_ivl _ _ _ _ _ _ _ A bb _ _ _ _ w' (hP _ rfl) ((hV _ (by decide) (by simp [dstOf])).trans rfl) h0 h1 g0 g1, stores_done rfl hle h0 h1 g0 g1⟩
  · intro j hj o ho A w' hs
    have hj0 : j = 0 := by omega
    subst hj0
    simp only [List.getElem?_cons_succ, List.getElem?_cons_zero, Option.some.injEq] at ho
    subst ho
    have hh := hs 46 (by decide)
    simp only [execOp, hh]
    rfl
  · rintro bb w' ⟨hbl, hhi, hlo, hcl, hoth⟩
    have k00 : w'.cell? ⟨bb 0, 0, none⟩ = some (.int .i64 f0) := (hcl 0 (by omega) 0 (by decide)).1
    have k01 : w'.cell? ⟨bb 0, 1, none⟩ = some (.int .i64 f1) := (hcl 0 (by omega) 1 (by decide)).1
    obtain ⟨B, HBb⟩ : ∃ B, Hid (B = bb 0) := ⟨_, Lib.hid rfl⟩
    have HF2 : Hid (Two w' B f0 f1) := Lib.hid (by rw [HBb.out]; exact ⟨k00, k01⟩)
    have HT2 := Lib.hid (HT.out.below hbl)
    have HD2 := Lib.hid (HD.out.below hbl)
    have HB2 := Lib.hid (below_step HB.out hbl)
    clear hcl hlo hhi hoth hbl k00 k01 m1 m2 hlt q1 q2
    simp only [ptrs, trailing, dstOf, ← HBb.out]
    by_cases he : ae = 0
    · subst he
      obtain ⟨rfl, rfl, rfl, rfl, rfl, o5, o6⟩ := Kg.out rfl
      obtain ⟨m1, m2⟩ := HF2.out
      have hlt := HF2.out.lt
      go_wp2_with fail
      have q3 : (0 : Int) ≤ (k : Int) ∧ (k : Int) ≤ n := ⟨by omega, by omega⟩
      have q4 : (k : Int) ≤ n := by omega
      have q5 : k ≤ n := by omega
      have hkB : Hid (w'.heap.size = w'.heap.size) := Lib.hid rfl
      apply wp_region_freshT 8 1 1 109 (fun _ => #[.int .i64 0, .int .i64 0]) (fun _ => #[.int .i64 r0, .int .i64 r1]) (fun _ => .int .i64 0) _ (by kernel_rfl) (by kernel_rfl) rfl
      · intro w0 h0
        have z0 := h0.size
        have p3 : ∀ X : Grown w0, X.w.cell? ⟨B, 0, none⟩ = some (.int .i64 f0) := fun X => by rw [X.cell (by omega), h0.cell (p := ⟨B, 0, none⟩) (by omega), m1]
        have p4 : ∀ X : Grown w0, X.w.cell? ⟨B, 1, none⟩ = some (.int .i64 f1) := fun X => by rw [X.cell (by omega), h0.cell (p := ⟨B, 1, none⟩) (by omega), m2]
        have hB0 := below_step HB2.out h0
        simp only [List.take_succ_cons, List.take_zero]
        repeat (go_big_quiet_step ((go_at_call 13; with_reducible exact grown_of (KR.out _ (below_step hB0 (Grown.below _))))))
        exact wpQuiet_nil rfl
      · intro j hj o ho
        have hj0 : j = 0 := by omega
        subst hj0
        simp only [List.getElem?_cons_succ, List.getElem?_cons_zero, Option.some.injEq] at ho
        subst ho
        exact ⟨_, fun ρ w' => run_alloc_ivl _ _ _ _ _ ρ w'⟩
      · intro j hj o ho A bb w' hP hV hle hz
        have hj0 : j = 0 := by omega
        subst hj0
        have h0 := (hz 0 (by decide)).1
        have h1 := (hz 1 (by decide)).1
        have g0 := (hz 0 (by decide)).2
        have g1 := (hz 1 (by decide)).2
        simp only [List.getElem?_cons_succ, List.getElem?_cons_zero, Option.some.injEq] at ho
        subst ho
        exact ⟨_, run_store_ivl _ _ _ _ _ _ _ A bb _ _ _ _ w' (hP _ rfl) ((hV _ (by decide) (by simp [dstOf])).trans rfl) h0 h1 g0 g1, stores_done rfl hle h0 h1 g0 g1⟩
      · intro j hj o ho A w' hs
        have hj0 : j = 0 := by omega
        subst hj0
        simp only [List.getElem?_cons_succ, List.getElem?_cons_zero, Option.some.injEq] at ho
        subst ho
        have hh := hs 62 (by decide)
        simp only [execOp, hh]
        rfl
      · rintro bb9 w9 ⟨hbl, hhi, hlo, hcl, hoth⟩
        have k00 : w9.cell? ⟨bb9 0, 0, none⟩ = some (.int .i64 r0) := (hcl 0 (by omega) 0 (by decide)).1
        have k01 : w9.cell? ⟨bb9 0, 1, none⟩ = some (.int .i64 r1) := (hcl 0 (by omega) 1 (by decide)).1
        obtain ⟨B9, HBb9⟩ : ∃ B, Hid (B = bb9 0) := ⟨_, Lib.hid rfl⟩
        have HR3 : Hid (Two w9 B9 r0 r1) := Lib.hid (by rw [HBb9.out]; exact ⟨k00, k01⟩)
        have HT3 := Lib.hid (HT2.out.below hbl)
        have HD3 := Lib.hid (HD2.out.below hbl)
        have HB3 := Lib.hid (below_step HB2.out hbl)
        clear hcl hlo hhi hoth hbl k00 k01 m1 m2 hlt q3 q4 q5
        simp only [ptrs, trailing, dstOf, ← HBb9.out]
        obtain ⟨m1, m2⟩ := HT3.out
        have hlt := HT3.out.lt
        go_wp2_with fail
        have q6 : IntKind.i64.wrap ((n : Int) - 1) = (m : Int) := by rw [IntKind.wrap_i64]; omega
        have q7 : (m : Int) < n := by omega
        have q8 : (0 : Int) < n := by omega
        apply wp_region_freshT 14 1 1 109 (fun _ => #[.int .i64 0, .int .i64 0]) (fun _ => #[.int .i64 o0, .int .i64 o1]) (fun _ => .int .i64 0) _ (by kernel_rfl) (by kernel_rfl) rfl
        · intro w0 h0
          have z0 := h0.size
          have hB0 := below_step HB3.out h0
          have p1 : ∀ X : Grown w0, X.w.cell? ⟨bk, off, none⟩ = some (.int .i64 z0x) := fun X => K0.out _ (below_step hB0 X.below)
          have p2 : ∀ X : Grown w0, X.w.cell? ⟨bk, off + m, none⟩ = some (.int .i64 z1) := fun X => K1.out _ (below_step hB0 X.below)
          have p3 : ∀ X : Grown w0, X.w.cell? ⟨w.heap.size, 0, none⟩ = some (.int .i64 l) := fun X => by rw [X.cell (by omega), h0.cell (p := ⟨w.heap.size, 0, none⟩) (by omega), m1]
          have p4 : ∀ X : Grown w0, X.w.cell? ⟨w.heap.size, 1, none⟩ = some (.int .i64 h) := fun X => by rw [X.cell (by omega), h0.cell (p := ⟨w.heap.size, 1, none⟩) (by omega), m2]
          simp only [List.take_succ_cons, List.take_zero]
          repeat (go_big_quiet_step ((go_at_call 11; with_reducible exact grown_of (KO.out _))))
          exact wpQuiet_nil rfl
        · intro j hj o ho
          have hj0 : j = 0 := by omega
          subst hj0
          simp only [List.getElem?_cons_succ, List.getElem?_cons_zero, Option.some.injEq] at ho
          subst ho
          exact ⟨_, fun ρ w' => run_alloc_ivl _ _ _ _ _ ρ w'⟩
        · intro j hj o ho A bb w' hP hV hle hz
          have hj0 : j = 0 := by omega
          subst hj0
          have h0 := (hz 0 (by decide)).1
          have h1 := (hz 1 (by decide)).1
          have g0 := (hz 0 (by decide)).2
          have g1 := (hz 1 (by decide)).2
          simp only [List.getElem?_cons_succ, List.getElem?_cons_zero, Option.some.injEq] at ho
          subst ho
          exact ⟨_, run_store_ivl _ _ _ _ _ _ _ A bb _ _ _ _ w' (hP _ rfl) ((hV _ (by decide) (by simp [dstOf])).trans rfl) h0 h1 g0 g1, stores_done rfl hle h0 h1 g0 g1⟩
        · intro j hj o ho A w' hs
          have hj0 : j = 0 := by omega
          subst hj0
          simp only [List.getElem?_cons_succ, List.getElem?_cons_zero, Option.some.injEq] at ho
          subst ho
          have hh := hs 76 (by decide)
          simp only [execOp, hh]
          rfl
        · rintro bb10 w10 ⟨hbl, hhi, hlo, hcl, hoth⟩
          have k00 : w10.cell? ⟨bb10 0, 0, none⟩ = some (.int .i64 o0) := (hcl 0 (by omega) 0 (by decide)).1
          have k01 : w10.cell? ⟨bb10 0, 1, none⟩ = some (.int .i64 o1) := (hcl 0 (by omega) 1 (by decide)).1
          obtain ⟨B10, HBb10⟩ : ∃ B, Hid (B = bb10 0) := ⟨_, Lib.hid rfl⟩
          rw [← HBb10.out] at k00 k01
          obtain ⟨m3, m4⟩ := HR3.out.below hbl
          obtain ⟨m5, m6⟩ := HD3.out.below hbl
          have HB4 := Lib.hid (below_step HB3.out hbl)
          clear hcl hlo hhi hoth hbl m1 m2 hlt q6 q7 q8
          simp only [ptrs, trailing, dstOf, ← HBb10.out]
          go_wp2
          go_ret
          exact ⟨rfl, HB4.out⟩
    · obtain ⟨rfl, rfl⟩ := Kb.out he
      have he' : (ae != 0) = true := by simp [he]
      have he2 : (ae == 0) = false := by simp [he]
      obtain ⟨m1, m2⟩ := HD2.out.grown
      go_wp2_with fail
      refine wp_region_grown (by kernel_rfl) (by kernel_rfl) ?_
      repeat (go_big_quiet_step ((go_at_call 17; with_reducible exact grown_of (of25_any _ _ _))))
      refine wpQuiet_nil ?_
      rintro _ ⟨X, rfl⟩
      go_wp2
      go_ret
      exact ⟨rfl, below_step HB2.out X.below⟩

theorem lawChains_skip (l h : Int) (n : Nat) (hn : n = 0 ∨ 60 < n) (hn2 : n ≤ 9223372036854775807) (x : Int) (ao : Option Addr) (cap : Nat) (w : World) :
    Calls Try.prog 7 #[.agg #[.int .i64 l, .int .i64 h], .slice ao n cap, .int .u8 x] w fun e w' => e = .returned (.bool true) ∧ Below w.heap.size w w' := by
  rcases hn with rfl | hn
  · go_enter Try.func7, Try.ntmps7
    go_wp2_with fail
    refine (head25_any _).mono ?_
    rintro e v1 ⟨rfl, hb⟩
    have hB := below_step (below_alloc (Below.refl _ w) _) hb
    go_wp2
    go_ret
    exact ⟨rfl, hB⟩
  · have h1 : (60 : Int) < n := by omega
    have h2 : ((n : Int) == 0) = false := by simp; omega
    go_enter Try.func7, Try.ntmps7
    go_wp2_with fail
    refine (head25_any _).mono ?_
    rintro e v1 ⟨rfl, hb⟩
    have hB := below_step (below_alloc (Below.refl _ w) _) hb
    go_wp2
    go_ret
    exact ⟨rfl, hB⟩

theorem IsInts.take {w : World} {ao : Option Addr} {zs : List Int} (h : IsInts w ao zs) (k : Nat) : IsInts w ao (zs.take k) := by
  rcases h with rfl | ⟨bk, off, h1, h2, h3⟩
  · exact Or.inl (by simp)
  · exact Or.inr ⟨bk, off, h1, h2, fun j hj => by rw [List.getElem_take]; exact h3 j (by rw [List.length_take] at hj; omega)⟩

theorem lawChains_any (l h : Int) (zs : List Int) (ao : Option Addr) (cap : Nat) (hn : zs.length ≤ cap) (hcap : cap ≤ 9223372036854775807) (x : Int) (hx0 : 0 ≤ x) (hx1 : x ≤ 255) (w : World) (hz : IsInts w ao zs) :
    Calls Try.prog 7 #[.agg #[.int .i64 l, .int .i64 h], .slice ao zs.length cap, .int .u8 x] w fun e w' => e = .returned (.bool true) ∧ Below w.heap.size w w' := by
  by_cases hs : zs.length = 0 ∨ 60 < zs.length
  · exact lawChains_skip l h zs.length hs (by omega) x ao cap w
  rcases hz with rfl | ⟨bk, off, rfl, hbk, hc⟩
  · exact absurd (Or.inl rfl) hs
  have hpos : 0 < zs.length := by omega
  have hr0 : 0 ≤ x.tmod zs.length := Int.tmod_nonneg _ hx0
  have hr1 : x.tmod zs.length < zs.length := Int.tmod_lt_of_pos _ (by omega)
  obtain ⟨k, hk⟩ : ∃ k : Nat, x.tmod zs.length = k := ⟨(x.tmod zs.length).toNat, by omega⟩
  have hkl : k < zs.length := by omega
  have hI : ∀ W, Below w.heap.size w W → ∀ j, (hj : j < zs.length) → W.cell? ⟨bk, off + j, none⟩ = some (.int .i64 zs[j]) := fun W hb j hj => by rw [hb.cell (p := ⟨bk, off + j, none⟩) hbk]; exact hc j hj
  have hIs : ∀ W, Below w.heap.size w W → IsInts W (some ⟨bk, off, none⟩) zs := fun W hb => Or.inr ⟨bk, off, rfl, Nat.lt_of_lt_of_le hbk hb.size, hI W hb⟩
  have hId : ∀ W, Below w.heap.size w W → IsInts W (some ⟨bk, off + k, none⟩) (zs.drop k) := fun W hb => Or.inr ⟨bk, off + k, rfl, Nat.lt_of_lt_of_le hbk hb.size, fun j hj => by
    rw [List.length_drop] at hj
    rw [List.getElem_drop, Nat.add_assoc]; exact hI W hb (k + j) (by omega)⟩
  have e0 : ∀ j, (hj : j < zs.length) → zs[j]?.getD 0 = zs[j] := fun j hj => by rw [List.getElem?_eq_getElem hj]; rfl
  have lt : (zs.take (k + 1)).length = k + 1 := by rw [List.length_take]; omega
  have ld : (zs.drop k).length = zs.length - k := List.length_drop
  obtain ⟨F, hF⟩ : ∃ F, F = Mig.chain l h (zs.take (k + 1)) := ⟨_, rfl⟩
  refine lawChains_main l h (Mig.chain l h zs).1 (Mig.chain l h zs).2.1 (Mig.chain l h zs).2.2 zs zs.length k x (by omega) (by omega) hkl hk ⟨hx0, hx1⟩ bk off cap hn hcap w hbk
    F.1 F.2.1 F.2.2 (Mig.chain F.1 F.2.1 (zs.drop k)).1 (Mig.chain F.1 F.2.1 (zs.drop k)).2.1 (Mig.chain F.1 F.2.1 (zs.drop k)).2.2
    (Mig.lo l h (zs[0]?.getD 0) (zs[zs.length - 1]?.getD 0)) (Mig.hi l h (zs[0]?.getD 0) (zs[zs.length - 1]?.getD 0)) (Mig.err l h (zs[0]?.getD 0) (zs[zs.length - 1]?.getD 0))
    (zs[0]?.getD 0) (zs[zs.length - 1]?.getD 0) ?_ (zs.length - 1) (by omega) ?_ ?_ ?_ ?_ (fun W => scale_any l h _ _ W) ?_ ?_
  · intro W hb
    rw [e0 0 hpos]
    exact hI W hb 0 hpos
  · intro W hb
    rw [e0 _ (by omega)]
    exact hI W hb _ (by omega)
  · exact fun W hb => chain_any l h zs (by omega) _ cap W (hIs W hb)
  · intro W hb
    have := chain_any l h (zs.take (k + 1)) (by omega) _ cap W ((hIs W hb).take (k + 1))
    rw [lt, ← hF] at this
    exact this
  · intro W hb
    have := chain_any F.1 F.2.1 (zs.drop k) (by omega) _ (cap - k) W (hId W hb)
    rw [ld] at this
    exact this
  · intro he
    rcases Mig.chain_cases l h zs with h1 | ⟨_, t, _, h1⟩
    · exact h1.2
    · rw [h1] at he; exact absurd rfl he
  · intro he
    obtain ⟨f0, f1, c1, c2, c3, c4, c5⟩ := Mig.chain_cut he hkl
    rw [hF, c1, c2]
    exact ⟨rfl, he, rfl, rfl, c3, c4, c5⟩

end Go.Proofs.Ytbiibpjjjjedgaa
