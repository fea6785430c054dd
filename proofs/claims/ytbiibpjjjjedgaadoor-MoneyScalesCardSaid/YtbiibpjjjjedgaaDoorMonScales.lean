/- The statement that weights times a number lead to the same shares: its walk. -/
import Derived.Test.YtbiibpjjjjedgaaDoorMonHead
import Derived.Test.YtbiibpjjjjedgaaDoorMonScalesMath
namespace Go.Proofs.YtbiibpjjjjedgaaDoor
open Go.RowKit

set_option maxRecDepth 100000 in
set_option maxHeartbeats 2000000 in
theorem lawScales_long (n x : Int) (len : Nat) (hl : 16 < len) (hl2 : len ≤ 140737488351232) (ao : Option Addr) (cap : Nat) (w : World) (ht : Tab w) :
    Calls Tryd.prog 5 #[.int .i64 n, .slice ao len cap, .int .u8 x] w fun e w' => e = .returned (.bool true) ∧ Below w.heap.size w w' := by
  have HH := Lib.hid (head03_any w ht)
  have h1 : (16 : Int) < len := by omega
  clear ht
  go_enter Tryd.func5, Tryd.ntmps5
  go_wp2_with fail
  refine HH.out.mono ?_
  rintro e v1 ⟨rfl, hb⟩
  go_wp2
  go_ret
  exact ⟨rfl, hb⟩

/-- The row that the loop has built. -/
def manyV (k : Int) (zs : List Int) : List Value := zs.map fun z => .int .i64 (k * z)
theorem ints_of_row {W : World} {base g cap : Nat} {k : Int} {zs : List Int} {len : Nat} (hlen : len = zs.length) (hg : g < W.heap.size) (h : W.ownsRow base 3 1 (.slice (some ⟨g, 0, none⟩) len cap) len (manyV k zs)) : IsInts W (some ⟨g, 0, none⟩) (zs.map (k * ·)) := by
  refine Or.inr ⟨g, 0, rfl, hg, fun j hj => ?_⟩
  rw [List.length_map] at hj
  rw [Nat.zero_add, h.cellAt j (by omega)]
  unfold manyV
  rw [List.getElem?_map, List.getElem?_eq_getElem hj, List.getElem_map]
  rfl

set_option maxRecDepth 100000 in
set_option maxHeartbeats 8000000 in
theorem lawScales_short (n x k r q : Int) (hx : x.tmod 9 = r) (hr : 0 ≤ r ∧ r ≤ 8) (hk : 1 + r = k) (hq : q = 9999999 / k) (hx0 : 0 ≤ x ∧ x ≤ 255) (zs : List Int) (hl : zs.length ≤ 16) (ao : Option Addr) (cap : Nat) (w : World) (hz : IsInts w ao zs) (ht : Tab w) :
    Calls Tryd.prog 5 #[.int .i64 n, .slice ao zs.length cap, .int .u8 x] w fun e w' => e = .returned (.bool true) ∧ Below w.heap.size w w' := by
  obtain ⟨i1, hi1, hy0, hy1, hy2⟩ := info_parts info_int
  obtain ⟨len, Hlen⟩ : ∃ len, Hid (len = zs.length) := ⟨_, Lib.hid rfl⟩
  have HH := Lib.hid (head03_any w ht)
  have HZ := Lib.hid hz
  obtain ⟨L, HL⟩ : ∃ L, Hid (L = (Mon.splitV n zs).length) := ⟨_, Lib.hid rfl⟩
  obtain ⟨ev, Hev⟩ : ∃ L, Hid (L = Mon.splitE n zs) := ⟨_, Lib.hid rfl⟩
  have HS1 : Hid (∀ (ao : Option Addr) (cap : Nat) W, IsInts W ao zs → Calls Tryd.prog 9 #[.int .i64 n, .slice ao len cap] W fun e w' => ∃ ao' cap', e = .returned (.tuple #[.slice ao' L cap', .int .i64 ev]) ∧ Below W.heap.size W w' ∧ IsInts w' ao' (Mon.splitV n zs)) := Lib.hid fun ao cap W h => by
    rw [Hlen.out, HL.out, Hev.out]; exact split_any n zs (by omega) ao cap W h
  have HS2 : Hid ((∀ z ∈ zs, 0 ≤ z ∧ k * z ≤ 9999999) → ∀ (ao : Option Addr) (cap : Nat) W, IsInts W ao (zs.map (k * ·)) → Calls Tryd.prog 9 #[.int .i64 n, .slice ao len cap] W fun e w' => ∃ ao' cap', e = .returned (.tuple #[.slice ao' L cap', .int .i64 ev]) ∧ Below W.heap.size W w' ∧ IsInts w' ao' (Mon.splitV n zs)) := Lib.hid fun hall ao cap W h => by
    have := split_any n (zs.map (k * ·)) (by rw [List.length_map]; omega) ao cap W h
    obtain ⟨_, e1, e2⟩ := split_times (n := n) (k := k) (by omega) hall
    rw [e1, e2, List.length_map] at this
    rw [Hlen.out, HL.out, Hev.out]; exact this
  have HI : Hid (∀ (ao bo : Option Addr) (ca cb : Nat) W, IsInts W ao (Mon.splitV n zs) → IsInts W bo (Mon.splitV n zs) → Calls Tryd.prog 17 #[.slice ao L ca, .slice bo L cb] W fun e w' => e = .returned (.bool true) ∧ Below W.heap.size W w') := Lib.hid fun ao bo ca cb W h1 h2 => by
    have hle : (Mon.splitV n zs).length ≤ 9223372036854775807 := by
      unfold Mon.splitV; split
      · rw [shares_len]; omega
      · simp
    have := ints_any (Mon.splitV n zs) (Mon.splitV n zs) hle ao bo ca cb W h1 h2
    rw [decide_eq_true rfl] at this
    rw [HL.out]; exact this
  have hkz : ∀ z : Int, 0 ≤ z → z ≤ q → k * z ≤ 9999999 := by
    intro z _ h2
    rw [hq] at h2
    have := (Int.le_ediv_iff_mul_le (show 0 < k by omega)).1 h2
    rw [Int.mul_comm]; exact this
  have HK := Lib.hid hkz
  have hq0 : 0 ≤ q ∧ q ≤ 9999999 := by
    rw [hq]; exact ⟨Int.ediv_nonneg (by omega) (by omega), Int.ediv_le_self _ (by omega)⟩
  rw [← Hlen.out] at hl ⊢
  obtain ⟨r1, r2⟩ := hr
  obtain ⟨x1, x2⟩ := hx0
  obtain ⟨q1, q2⟩ := hq0
  have hk1 : 1 ≤ k := by omega
  have hk2 : k ≤ 9 := by omega
  have e1 : x % 9 = r := by rw [← hx, Int.tmod_eq_emod_of_nonneg x1]
  have e2 : IntKind.i64.wrap (1 + r) = k := by rw [hk, IntKind.wrap_i64]; omega
  have e3 : (9999999 : Int).tdiv k = q := by rw [hq, Int.tdiv_eq_ediv_of_nonneg (by omega)]
  have e4 : (9999999 : Int) / k = q := hq.symm
  have e5 : IntKind.i64.wrap q = q := by rw [IntKind.wrap_i64]; omega
  have e6 : (k == 0) = false := by simp; omega
  have e7 : ¬ k = 0 := by omega
  have h16 : ¬ (16 : Int) < len := by omega
  clear hq hz ht hkz
  go_enter Tryd.func5, Tryd.ntmps5
  go_wp2_with fail
  refine HH.out.mono ?_
  rintro e v1 ⟨rfl, hb⟩
  have HB0 := Lib.hid hb
  clear hb
  go_wp2
  go_loopw [9, 10] (fun v i wr => ∃ (j : Nat), j ≤ len ∧ i = .int .i64 j ∧ (j = 0 → v = .slice none 0 0) ∧ Hid (Below w.heap.size w wr ∧ wr.ownsRow w.heap.size 3 1 v j (manyV k (zs.take j))) ∧ Hid (∀ z ∈ zs.take j, 0 ≤ z ∧ k * z ≤ 9999999)) (fun _ i _ => len - (intOf i).toNat)
  case atStart => exact ⟨0, by omega, rfl, fun _ => rfl, Lib.hid ⟨HB0.out, World.ownsRow_nil _ _ _ _⟩, Lib.hid (by simp)⟩
  case round =>
    obtain ⟨j, hj, rfl, hv0, HR, HA⟩ := hrel
    by_cases hlt : j < len
    · have hjz : j < zs.length := by rw [← Hlen.out]; exact hlt
      rcases HZ.out with hnil | ⟨bk, off, rfl, hbk, hc⟩
      · rw [hnil] at hjz; simp at hjz
      clear hv0
      obtain ⟨z, Hz⟩ : ∃ z, Hid (z = zs[j]) := ⟨_, Lib.hid rfl⟩
      have hj' : (j : Int) < len := by omega
      have h1 : wr.cell? ⟨bk, off + j, none⟩ = some (.int .i64 z) := by rw [HR.out.1.cell (p := ⟨bk, off + j, none⟩) hbk, hc j hjz, Hz.out]
      have l1 := lt_of_cell h1
      have p1 : ∀ X : Grown wr, X.w.cell? ⟨bk, off + j, none⟩ = some (.int .i64 z) := fun X => by rw [X.cell l1, h1]
      replace hc := Lib.hid hc
      have hcase : z < 0 ∨ (¬ z < 0 ∧ q < z) ∨ (¬ z < 0 ∧ ¬ q < z) := by omega
      rcases hcase with hz1 | ⟨hz1, hz2⟩ | ⟨hz1, hz2⟩
      · have hd1 : decide (z < 0) = true := decide_eq_true hz1
        go_wp2_with fail
        refine wp_region_grown (by kernel_rfl) (by kernel_rfl) ?_
        repeat (go_big_quiet_step (fail))
        refine wpQuiet_nil ?_
        rintro _ ⟨X, rfl⟩
        go_wp2
        go_ret
        exact ⟨rfl, below_step HR.out.1 X.below⟩
      · have hd1 : decide (z < 0) = false := decide_eq_false hz1
        have hd2 : decide (q < z) = true := decide_eq_true hz2
        go_wp2_with fail
        refine wp_region_grown (by kernel_rfl) (by kernel_rfl) ?_
        repeat (go_big_quiet_step (fail))
        refine wpQuiet_nil ?_
        rintro _ ⟨X, rfl⟩
        go_wp2
        go_ret
        exact ⟨rfl, below_step HR.out.1 X.below⟩
      · have hd1 : decide (z < 0) = false := decide_eq_false hz1
        have hd2 : decide (q < z) = false := decide_eq_false hz2
        have hkz := HK.out z (by omega) (by omega)
        have hkz0 : 0 ≤ k * z := Int.mul_nonneg (by omega) (by omega)
        obtain ⟨y, Hy⟩ : ∃ y, Hid (y = k * z) := ⟨_, Lib.hid rfl⟩
        rw [← Hy.out] at hkz hkz0
        have e8 : IntKind.i64.wrap (k * z) = y := by rw [← Hy.out, IntKind.wrap_i64]; omega
        go_wp2_with fail
        refine wp_region_grown (by kernel_rfl) (by kernel_rfl) ?_
        repeat (go_big_quiet_step (fail))
        refine wpQuiet_nil ?_
        rintro _ ⟨X, rfl⟩
        have HOx := Lib.hid (HR.out.2.kept (grown_below X.below none) (Classical.em _))
        have HBx := Lib.hid (below_step HR.out.1 X.below)
        obtain ⟨W1, HW1⟩ : ∃ W1, Hid (W1 = X.w) := ⟨_, Lib.hid rfl⟩
        have h2 : W1.cell? ⟨bk, off + j, none⟩ = some (.int .i64 z) := by rw [HW1.out, p1 X]
        rw [← HW1.out] at HOx HBx ⊢
        clear p1 h1
        have hw1 := HBx.out.size
        have HN : Hid (∀ i u, [Value.int .i64 y][i]? = some u → (W1.alloc (.cells #[.int .i64 y] 3)).cell? ((⟨W1.heap.size, 0, none⟩ : Addr).add i) = some u) := Lib.hid (by
          intro i u hu
          have e : (⟨W1.heap.size, 0, none⟩ : Addr).add i = ⟨W1.heap.size, i, none⟩ := by unfold Addr.add; split <;> simp_all
          rw [e, cell_alloc, if_pos rfl]
          simpa using hu)
        go_wp2_with (at_builtin; refine wpList_append_own _ rfl _ _ 22 rfl w.heap.size 3 i1 (.int .i64 0) 1 8 Tryd.underlying22 hi1 hy0 hy1 hy2 rfl (by decide) _ _ _ rfl (HOx.out.alloc _) ⟨W1.heap.size, 0, none⟩ 1 1 [.int .i64 y] rfl rfl HN.out (by simp [Value.oneCell']) (by unfold maxLen; omega) (by omega) (by rw [size_alloc]; omega) ?_; intro v' w1 hown' hgrow _)
        have HO' := Lib.hid hown'
        have HG' := Lib.hid hgrow
        clear hown' hgrow
        go_roundw
        case rel =>
          refine ⟨j + 1, by omega, by go_num, fun h => absurd h (by omega), Lib.hid ⟨?_, ?_⟩, Lib.hid ?_⟩
          · exact (HBx.out.alloc HBx.out.size _).grown HG'.out (by rw [size_alloc]; omega) (fun i e => ((HOx.out.lt i e).1))
          · have e : manyV k (zs.take (j + 1)) = manyV k (zs.take j) ++ [.int .i64 y] := by
              unfold manyV
              rw [List.take_succ_eq_append_getElem hjz, List.map_append, ← Hz.out, Hy.out]; rfl
            rw [e]
            exact HO'.out
          · intro u hu
            rw [List.take_succ_eq_append_getElem hjz, ← Hz.out] at hu
            rcases List.mem_append.1 hu with h | h
            · exact HA.out u h
            · rw [List.mem_singleton.1 h, ← Hy.out]; exact ⟨by omega, hkz⟩
        case measure => simp [intOf]; omega
    · obtain rfl : len = j := by omega
      have hall : ∀ z ∈ zs, 0 ≤ z ∧ k * z ≤ 9999999 := by
        have := HA.out
        rwa [Hlen.out, List.take_length] at this
      obtain ⟨am, cm, hv, HM⟩ : ∃ am cm, u9 = Value.slice am len cm ∧ Hid (IsInts wr am (zs.map (k * ·))) := by
        have hown := HR.out.2
        rw [show zs.take len = zs by rw [Hlen.out, List.take_length]] at hown
        rcases Nat.eq_zero_or_pos len with h0 | h0
        · refine ⟨none, 0, by rw [hv0 h0, h0], Lib.hid (Or.inl ?_)⟩
          have : zs = [] := List.length_eq_zero_iff.1 (by rw [← Hlen.out]; exact h0)
          rw [this]; rfl
        · obtain ⟨m, hm⟩ : ∃ m, len = m + 1 := ⟨len - 1, by omega⟩
          have hown2 := hown
          rw [hm] at hown2
          obtain ⟨g, cp, hv⟩ := ownsRow_succ' hown2
          rw [← hm] at hv
          rw [hv] at hown
          exact ⟨some ⟨g, 0, none⟩, cp, hv, Lib.hid (ints_of_row Hlen.out (hown.lt g rfl).2 hown)⟩
      subst hv
      have HBr := Lib.hid HR.out.1
      have HC := Lib.hid (HS2.out hall)
      clear hv0 hall
      go_wp2_with fail
      refine (HS1.out _ _ _ (HZ.out.below HBr.out)).mono ?_
      rintro e w1 ⟨a1, c1, rfl, hb1, hi1⟩
      have HI1 := Lib.hid hi1
      have HB1 := Lib.hid (below_step HBr.out hb1)
      replace HM := Lib.hid (HM.out.below hb1)
      clear hb1 hi1
      go_wp2_with fail
      refine (HC.out _ _ _ HM.out).mono ?_
      rintro e w2 ⟨a2, c2, rfl, hb2, hi2⟩
      have HI2 := Lib.hid hi2
      have HB2 := Lib.hid (below_step HB1.out hb2)
      replace HI1 := Lib.hid (HI1.out.below hb2)
      clear hb2 hi2
      go_wp2_with fail
      refine (HI.out _ _ _ _ _ HI1.out HI2.out).mono ?_
      rintro e w3 ⟨rfl, hb3⟩
      have HB3 := Lib.hid (below_step HB2.out hb3)
      clear hb3
      go_wp2
      go_ret
      exact ⟨rfl, HB3.out⟩

theorem lawScales_any (n : Int) (ao : Option Addr) (zs : List Int) (cap : Nat) (hl : zs.length ≤ 140737488351232) (x : Int) (hx0 : 0 ≤ x) (hx1 : x ≤ 255) (w : World) (hz : IsInts w ao zs) (_ : ∀ z ∈ zs, (Lit.int .i64 z).wf = true) (ht : Tab w) :
    Calls Tryd.prog 5 #[.int .i64 n, .slice ao zs.length cap, .int .u8 x] w fun e w' => e = .returned (.bool true) ∧ Below w.heap.size w w' := by
  by_cases h : zs.length ≤ 16
  · have h1 : 0 ≤ x.tmod 9 := Int.tmod_nonneg _ hx0
    have h2 : x.tmod 9 < 9 := Int.tmod_lt_of_pos _ (by omega)
    exact lawScales_short n x (1 + x.tmod 9) (x.tmod 9) _ rfl ⟨h1, by omega⟩ rfl rfl ⟨hx0, hx1⟩ zs h ao cap w hz ht
  · exact lawScales_long n x zs.length (by omega) hl ao cap w ht

end Go.Proofs.YtbiibpjjjjedgaaDoor
