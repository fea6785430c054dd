/- The statement on the critical hours: its walk. -/
import Derived.Test.YtejgbfaampllaaaTskHead
import Derived.Test.YtejgbfaampllaaaTskFew
import Derived.Test.YtejgbfaampllaaaTskRefA
import Derived.Test.YtejgbfaampllaaaTskCopyW
import Derived.Test.YtejgbfaampllaaaTskHoursMath
namespace Go.Proofs.Ytejgbfaampllaaa
open Go.RowKit

theorem ints_rows3 {W : World} {ao : Option Addr} {zs : List Nat} (h : IsInts W ao (Tsk.ints zs)) (h0 : 0 < zs.length) : ∃ bk off, ao = some ⟨bk, off, none⟩ ∧ bk < W.heap.size ∧ ∀ k, (hk : k < zs.length) → W.cell? ⟨bk, off + k, none⟩ = some (.int .i64 (zs[k] : Nat)) := by
  rcases h with h | ⟨bk, off, h1, h2, h3⟩
  · cases zs with
    | nil => simp at h0
    | cons a t => cases h
  · exact ⟨bk, off, h1, h2, fun k hk => by rw [h3 k (by simpa [Tsk.ints] using hk)]; simp [Tsk.ints]⟩
theorem RowT.same {w : World} {g n : Nat} {T T' : Nat → Tk} (h : RowT w g n T) (he : ∀ i, i < n → T i = T' i) : RowT w g n T' :=
  ⟨h.whole, fun k hk => by rw [← he k hk]; exact h.cells k hk⟩

set_option maxRecDepth 100000 in
set_option maxHeartbeats 8000000 in
theorem hours37_any (l : List Tk) (hn : l.length ≤ 9223372036854775807) (hf : ∀ t ∈ l, tkFine t) (ao : Option Addr) (cap : Nat) (one : Int) (ho0 : 0 ≤ one) (ho1 : one ≤ 255) (two : Int) (ht0 : 0 ≤ two) (ht1 : two ≤ 255) (done : List Bool) (hdn : done.length ≤ 9223372036854775807) (bo : Option Addr) (capb : Nat) (W : World) (hl : IsTasks W ao l) (hb : IsBools W bo done) :
    Calls Try.prog 7 #[.slice ao l.length cap, .int .u8 one, .int .u8 two, .slice bo done.length capb] W fun e w' => e = .returned (.bool true) ∧ Below W.heap.size W w' := by
  have HH := Lib.hid (head37_any W)
  have HF := Lib.hid fun w' (h : IsTasks w' ao l) => few_any l hf hn ao cap w' h
  have HV := Lib.hid fun w' (h : IsTasks w' ao l) => rvalid_any l hf hn ao cap w' h
  have HC := Lib.hid fun w' (h : IsTasks w' ao l) => crit_any l hf hn ao cap w' h
  have HR := Lib.hid fun w' (h : IsTasks w' ao l) (hd : IsBools w' bo done) => ready_any l hf hn done hdn ao bo cap capb w' h hd
  unfold ReadyPost at HR
  obtain ⟨n, Hn⟩ : ∃ n, Hid (n = l.length) := ⟨_, Lib.hid rfl⟩
  obtain ⟨m, Hm⟩ : ∃ n, Hid (n = done.length) := ⟨_, Lib.hid rfl⟩
  have HNA := Lib.hid fun (hv : Tsk.validB l = true) (W' : World) (h : IsTasks W' ao l) k (hk : k < n) => needs_at hv Hn.out h hk
  have HL := Lib.hid hl
  have HD := Lib.hid hb
  obtain ⟨vb, Hvb⟩ : ∃ n, Hid (n = Tsk.validB l) := ⟨_, Lib.hid rfl⟩
  obtain ⟨fb, Hfb⟩ : ∃ n, Hid (n = Tsk.fewB l) := ⟨_, Lib.hid rfl⟩
  obtain ⟨E, HE⟩ : ∃ n, Hid (n = Tsk.orderE l) := ⟨_, Lib.hid rfl⟩
  obtain ⟨cv, Hcv⟩ : ∃ n, Hid (n = Tsk.critV l) := ⟨_, Lib.hid rfl⟩
  obtain ⟨wv, Hwv⟩ : ∃ n, Hid (n = Tsk.readyV l done) := ⟨_, Lib.hid rfl⟩
  rw [← Hn.out, ← Hfb.out] at HF
  rw [← Hn.out, ← Hvb.out] at HV
  rw [← Hn.out, ← HE.out, ← Hcv.out] at HC
  rw [← Hn.out, ← Hm.out, ← Hwv.out] at HR
  rw [← Hn.out, ← Hm.out]
  obtain ⟨i1, hi1, hy0, hy1, hy2⟩ := info_parts info_int
  clear hl hb hf
  go_enter Try.func7, Try.ntmps7
  go_wp2_with fail
  refine HH.out.mono ?_
  rintro e w1 ⟨rfl, hb⟩
  have HB1 := Lib.hid hb
  clear hb
  cases fb
  · go_wp2_with fail
    refine (HF.out _ (HL.out.below HB1.out)).mono ?_
    rintro e _ ⟨rfl, rfl⟩
    go_wp2
    go_ret
    exact ⟨rfl, HB1.out⟩
  · go_wp2_with fail
    refine (HF.out _ (HL.out.below HB1.out)).mono ?_
    rintro e _ ⟨rfl, rfl⟩
    go_wp2_with fail
    refine (HV.out _ (HL.out.below HB1.out)).mono ?_
    rintro e w2 ⟨rfl, hb⟩
    have HB2 := Lib.hid (below_step HB1.out hb)
    clear hb
    by_cases hbad : vb = false ∨ vb = true ∧ (((n : Int) == 0) = true ∨ ((n : Int) == 0) = false ∧ (60 : Int) < m)
    · rcases hbad with rfl | ⟨rfl, h60 | ⟨h0, h60⟩⟩
      all_goals
        go_wp2
        go_ret
        exact ⟨rfl, HB2.out⟩
    · obtain rfl : vb = true := by cases vb with | true => rfl | false => exact absurd (Or.inl rfl) hbad
      have h0 : ((n : Int) == 0) = false := by
        cases h : ((n : Int) == 0)
        · rfl
        · exact absurd (Or.inr ⟨rfl, Or.inl h⟩) hbad
      have h60 : ¬ (60 : Int) < m := fun h => hbad (Or.inr ⟨rfl, Or.inr ⟨h0, h⟩⟩)
      have hn0 : 0 < n := by simp at h0; omega
      have hvb : Tsk.validB l = true := Hvb.out.symm
      have h40 : (n : Int) ≤ 40 := by have := (Tsk.validB_iff.1 hvb).1; have := Hn.out; omega
      have HNA2 := Lib.hid (HNA.out hvb)
      have HVB := Lib.hid hvb
      clear HNA hvb hbad
      go_wp2_with fail
      refine (HC.out _ (HL.out.below HB2.out)).mono ?_
      rintro e w3 ⟨rfl, hb⟩
      have HB3 := Lib.hid (below_step HB2.out hb)
      clear hb
      by_cases hE : E = 0
      · have HEz : Hid (Tsk.orderE l = 0) := Lib.hid (by rw [← HE.out]; exact hE)
        subst hE
        have hcv : 0 ≤ cv ∧ cv ≤ 40000 := by
          have h1 := Tsk.crit_sum HEz.out
          have h2 := Tsk.sumUp_bd HVB.out l.length
          have h3 := (Tsk.critF_bd HVB.out (Tsk.orderL l)).2.1
          have h4 : Tsk.critV l = (Tsk.critF l (Tsk.orderL l)).2 := by unfold Tsk.critV; rw [if_pos HEz.out]
          rw [Hcv.out]
          have := Hn.out
          omega
        obtain ⟨bk, off, _, _, _, rfl, _⟩ := HNA2.out W HL.out 0 hn0
        go_wp2
        go_loopw [12, 13] (fun s i wr => ∃ k : Nat, k ≤ n ∧ i = .int .i64 k ∧ ∃ x, s = .int .i64 x ∧ Hid (x = Tsk.sumUp l k) ∧ Hid (Below w3.heap.size w3 wr)) (fun _ i _ => n - (intOf i).toNat)
        case atStart => exact ⟨0, by omega, rfl, 0, rfl, Lib.hid rfl, Lib.hid (Below.refl _ _)⟩
        case round =>
          obtain ⟨k, hk, rfl, x, rfl, HX, HBk⟩ := hrel
          have hxb : 0 ≤ x ∧ x ≤ 40000 := by have := Tsk.sumUp_bd HVB.out k; rw [HX.out]; omega
          by_cases hlt : k < n
          · have hlt' : (k : Int) < n := by omega
            have hkl : k < l.length := by rw [← Hn.out]; exact hlt
            obtain ⟨bk', off', ao2, cap2, zs, he, hbk, c1, -, -, c4, hin2, hzs, hzl, hz40⟩ := HNA2.out _ (HL.out.below (below_step HB3.out HBk.out)) k hlt
            simp only [Option.some.injEq, Addr.mk.injEq, and_true] at he
            obtain ⟨rfl, rfl⟩ := he
            obtain ⟨hh, Hhh⟩ : ∃ y, Hid (y = Tsk.hoursAt l k) := ⟨_, Lib.hid rfl⟩
            have hhb := Tsk.hoursAt_bd HVB.out k
            rw [← Hhh.out] at c1 hhb
            have hc1 : ¬ cv < hh := by
              have h1 := Tsk.end_hours (Tsk.in_order HEz.out hkl)
              have h2 := Tsk.crit_ge HEz.out hkl
              rw [Hcv.out, Hhh.out]; omega
            obtain ⟨mm, Hmm⟩ : ∃ y, Hid (y = zs.length) := ⟨_, Lib.hid rfl⟩
            rw [← Hmm.out] at c4 hz40
            have HC1 := Lib.hid c1
            have HC4 := Lib.hid c4
            have HIn := Lib.hid hin2
            have HZ := Lib.hid hzs
            have HZl := Lib.hid hzl
            have HSn : Hid (x + hh = Tsk.sumUp l (k + 1)) := Lib.hid (by show _ = Tsk.sumUp l k + Tsk.hoursAt l k; rw [HX.out, Hhh.out])
            clear hin2 hzs hzl
            go_wp2
            clear c1 c4
            obtain ⟨wo, rfl⟩ : ∃ y, y = wr := ⟨_, rfl⟩
            go_loopw [14] (fun q wr => ∃ j : Nat, j ≤ mm ∧ q = .int .i64 j ∧ Hid (Below wo.heap.size wo wr)) (fun q _ => mm - (intOf q).toNat)
            case atStart => exact ⟨0, by omega, rfl, Lib.hid (Below.refl _ _)⟩
            case round =>
              obtain ⟨j, hj, rfl, HBj⟩ := hrel
              have c4 : wr.cell? ⟨bk, off + k * 4 + 3, none⟩ = some (.slice ao2 mm cap2) := by rw [HBj.out.cell (p := ⟨bk, off + k * 4 + 3, none⟩) hbk]; exact HC4.out
              have hbkr : bk < wr.heap.size := Nat.lt_of_lt_of_le hbk HBj.out.size
              by_cases hlt2 : j < mm
              · have hlt2' : (j : Int) < mm := by omega
                have hja : j < zs.length := by rw [← Hmm.out]; exact hlt2
                obtain ⟨b4, o4, rfl, hb4, d4⟩ := ints_at (HIn.out.below HBj.out) hja
                obtain ⟨y, Hy⟩ : ∃ y : Nat, Hid (y = zs[j]) := ⟨_, Lib.hid rfl⟩
                rw [← Hy.out] at d4
                have hyn : y < n := by rw [Hy.out]; exact HZl.out _ (List.getElem_mem _)
                have hyn' : (y : Int) < n := by omega
                have hyl : y < l.length := by rw [← Hn.out]; exact hyn
                obtain ⟨bk', off', _, _, _, he, _, c5, _⟩ := HNA2.out _ (HL.out.below (below_step HB3.out (below_step HBk.out HBj.out))) y hyn
                simp only [Option.some.injEq, Addr.mk.injEq, and_true] at he
                obtain ⟨rfl, rfl⟩ := he
                obtain ⟨hy3, Hhy⟩ : ∃ z, Hid (z = Tsk.hoursAt l y) := ⟨_, Lib.hid rfl⟩
                have hyb := Tsk.hoursAt_bd HVB.out y
                rw [← Hhy.out] at c5 hyb
                have hc2 : ¬ cv < hh + hy3 := by
                  have h1 := Tsk.end_need (Tsk.in_order HEz.out hkl) (show y ∈ Tsk.needsAt l k by rw [← HZ.out, Hy.out]; exact List.getElem_mem _)
                  have h2 := Tsk.end_hours (Tsk.in_order HEz.out hyl)
                  have h3 := Tsk.crit_ge HEz.out hkl
                  rw [Hcv.out, Hhh.out, Hhy.out]; omega
                have hc3 : decide (cv < hh + hy3) = false := decide_eq_false hc2
                have hwr : IntKind.i64.wrap (hh + hy3) = hh + hy3 := IntWalk.i64_in _ (by omega)
                have c1 : wr.cell? ⟨bk, off + k * 4, none⟩ = some (.int .i64 hh) := by rw [HBj.out.cell (p := ⟨bk, off + k * 4, none⟩) hbk]; exact HC1.out
                have l4 := lt_of_cell d4
                have p1 : ∀ X : Grown wr, X.w.cell? ⟨bk, off + k * 4, none⟩ = some (.int .i64 hh) := fun X => by rw [X.cell hbkr, c1]
                have p2 : ∀ X : Grown wr, X.w.cell? ⟨bk, off + k * 4 + 3, none⟩ = some (.slice (some ⟨b4, o4, none⟩) mm cap2) := fun X => by rw [X.cell hbkr, c4]
                have p3 : ∀ X : Grown wr, X.w.cell? ⟨b4, o4 + j, none⟩ = some (.int .i64 (y : Int)) := fun X => by rw [X.cell l4, d4]
                have p4 : ∀ X : Grown wr, X.w.cell? ⟨bk, off + y * 4, none⟩ = some (.int .i64 hy3) := fun X => by rw [X.cell hbkr, c5]
                clear hb4
                go_wp2_with fail
                refine wp_region_grown (by kernel_rfl) (by kernel_rfl) ?_
                repeat (go_big_quiet_step (fail))
                refine wpQuiet_nil ?_
                rintro _ ⟨X, rfl⟩
                clear hwr
                go_wp2
                go_roundw
                case rel => exact ⟨j + 1, by omega, by go_num, Lib.hid (HBj.out.trans (X.below.mono HBj.out.size))⟩
                case measure => simp [intOf]; omega
              · obtain rfl : mm = j := by omega
                go_wp2
                go_roundw
                case rel => exact ⟨k + 1, by omega, by go_num, _, rfl, HSn, Lib.hid (below_step HBk.out HBj.out)⟩
                case measure => simp [intOf]; omega
          · have HSum : Hid (x = Tsk.sumUp l l.length) := Lib.hid (by
              obtain rfl : k = n := by omega
              rw [HX.out, Hn.out])
            obtain rfl : n = k := by omega
            clear HX
            obtain ⟨a, ha⟩ : ∃ q : Nat, one % (n : Int) = (q : Int) := ⟨(one % (n : Int)).toNat, by have := Int.emod_nonneg one (by omega : (n : Int) ≠ 0); omega⟩
            have han : a < n := by have h1 := Int.emod_lt_of_pos one (by omega : (0 : Int) < n); omega
            obtain ⟨b, hb'⟩ : ∃ q : Nat, two % (n : Int) = (q : Int) := ⟨(two % (n : Int)).toNat, by have := Int.emod_nonneg two (by omega : (n : Int) ≠ 0); omega⟩
            have hbn : b < n := by have h1 := Int.emod_lt_of_pos two (by omega : (0 : Int) < n); omega
            have han' : (a : Int) < n := by omega
            have hbn' : (b : Int) < n := by omega
            go_wp2_with fail
            refine wp_region_grown (by kernel_rfl) (by kernel_rfl) ?_
            repeat (go_big_quiet_step (fail))
            refine wpQuiet_nil ?_
            rintro _ ⟨X, rfl⟩
            rw [ha, hb']
            obtain ⟨w4, hw4⟩ : ∃ y, y = X.w := ⟨_, rfl⟩
            have HB4 : Hid (Below W.heap.size W w4) := Lib.hid (by rw [hw4]; exact below_step (below_step HB3.out HBk.out) X.below)
            rw [← hw4]
            clear hw4 X ha hb'
            have HW4 : Hid (Whole (w4.alloc (.cells #[] 41)) w4.heap.size 41 #[]) := Lib.hid (Whole.new _ _ _)
            go_wp2_with (at_builtin; refine wpList_copy rfl (.tmp 124) (.tmp 125) rfl w4.heap.size rfl HW4.out w4 (below_alloc (Below.refl _ _) _) (Nat.le_refl _) l _ n _ Hn.out rfl (Or.inr ⟨_, rfl⟩) (HL.out.below HB4.out) (by omega) ?_; intro vo vc w5 hb5 hcopy; obtain ⟨g, rfl, hgB, hrow⟩ := hcopy.resolve_left (by omega); have HB5 := Lib.hid hb5; have HC5 := Lib.hid hrow; clear hb5 hcopy hrow)
            have HBW5 := Lib.hid (below_step HB4.out HB5.out)
            go_loopw [18, 19] (fun v i wr => ∃ k : Nat, k ≤ n ∧ i = .int .i64 k ∧ ∃ vo q vc, v = .slice vo q vc ∧ Hid (Below w5.heap.size w5 wr ∧ wr.ownsRow w5.heap.size 3 1 (.slice vo q vc) q (ordC (Tsk.mergeUp l a b k)) ∧ q = (Tsk.mergeUp l a b k).length)) (fun _ i _ => n - (intOf i).toNat)
            case atStart => exact ⟨0, by omega, rfl, none, 0, 0, rfl, Lib.hid ⟨Below.refl _ _, World.ownsRow_nil _ _ _ _, rfl⟩⟩
            case round =>
              obtain ⟨k, hk, rfl, vo, q, vq, rfl, HI⟩ := hrel
              by_cases hlt : k < n
              · have hlt' : (k : Int) < n := by omega
                obtain ⟨bk', off', ao2, cap2, zs, he, hbk, -, -, -, c4, hin2, hzs, hzl, hz40⟩ := HNA2.out _ (HL.out.below (below_step HBW5.out HI.out.1)) a han
                simp only [Option.some.injEq, Addr.mk.injEq, and_true] at he
                obtain ⟨rfl, rfl⟩ := he
                obtain ⟨mm, Hmm⟩ : ∃ y, Hid (y = zs.length) := ⟨_, Lib.hid rfl⟩
                rw [← Hmm.out] at c4 hz40
                have HIn := Lib.hid hin2
                have HZ := Lib.hid hzs
                clear hin2 hzs hzl
                go_wp2
                go_loop [20, 21] (fun c i => ∃ j : Nat, j ≤ mm ∧ i = .int .i64 j ∧ ∃ d : Bool, c = .bool d ∧ Hid (d = true ↔ k = b ∨ ∃ p, ∃ h : p < zs.length, p < j ∧ zs[p] = k)) (fun _ i => mm - (intOf i).toNat)
                case atStart => exact ⟨0, by omega, rfl, _, rfl, Lib.hid (by
                  rw [beq_iff_eq]
                  constructor
                  · intro h; left; omega
                  · rintro (h | ⟨p, _, h, _⟩)
                    · omega
                    · omega)⟩
                case round =>
                  obtain ⟨j, hj, rfl, d, rfl, HDd⟩ := hrel
                  by_cases hlt2 : j < mm
                  · have hlt2' : (j : Int) < mm := by omega
                    cases d
                    · have hjz : j < zs.length := by rw [← Hmm.out]; exact hlt2
                      obtain ⟨b4, o4, rfl, hb4, d4⟩ := ints_at HIn.out hjz
                      obtain ⟨y, Hy⟩ : ∃ y : Nat, Hid (y = zs[j]) := ⟨_, Lib.hid rfl⟩
                      rw [← Hy.out] at d4
                      have HNx : Hid (∀ d' : Bool, d' = ((y : Int) == (k : Int)) → (d' = true ↔ k = b ∨ ∃ p, ∃ h : p < zs.length, p < j + 1 ∧ zs[p] = k)) := Lib.hid fun d' hd' => by
                        rw [hd', beq_iff_eq]
                        constructor
                        · intro he
                          exact Or.inr ⟨j, hjz, by omega, by rw [← Hy.out]; omega⟩
                        · rintro (h | ⟨p, h1, h2, h3⟩)
                          · exact absurd (HDd.out.2 (Or.inl h)) (by simp)
                          · by_cases e : p = j
                            · subst e
                              rw [← Hy.out] at h3
                              omega
                            · exact absurd (HDd.out.2 (Or.inr ⟨p, h1, by omega, h3⟩)) (by simp)
                      clear hb4
                      go_wp2
                      go_round
                      case rel => exact ⟨j + 1, by omega, by go_num, _, rfl, Lib.hid (HNx.out _ rfl)⟩
                      case measure => simp [intOf]; omega
                    · go_wp2
                      go_round
                      case rel => exact ⟨j + 1, by omega, by go_num, true, rfl, Lib.hid (by
                        refine ⟨fun _ => ?_, fun _ => rfl⟩
                        rcases HDd.out.1 rfl with h1 | ⟨p, h1, h2, h3⟩
                        · exact Or.inl h1
                        · exact Or.inr ⟨p, h1, by omega, h3⟩)⟩
                      case measure => simp [intOf]; omega
                  · have HDe : Hid (d = (decide (k = b) || (Tsk.needsAt l a).contains k)) := Lib.hid (by
                      rw [Bool.eq_iff_iff, HDd.out, Bool.or_eq_true, decide_eq_true_eq, List.contains_iff_mem, ← HZ.out]
                      refine or_congr Iff.rfl ⟨?_, ?_⟩
                      · rintro ⟨p, h1, _, h3⟩
                        rw [← h3]; exact List.getElem_mem _
                      · intro h
                        obtain ⟨p, h1, h2⟩ := List.getElem_of_mem h
                        exact ⟨p, h1, by have := Hmm.out; omega, h2⟩)
                    obtain rfl : mm = j := by omega
                    clear HDd
                    cases d
                    · go_wp2
                      go_roundw
                      case rel => exact ⟨k + 1, by omega, by go_num, vo, q, vq, rfl, Lib.hid ⟨HI.out.1, by rw [Tsk.mergeUp_succ, ← HDe.out]; exact HI.out.2.1, by rw [Tsk.mergeUp_succ, ← HDe.out]; exact HI.out.2.2⟩⟩
                      case measure => simp [intOf]; omega
                    · have HN : Hid (∀ (i : Nat) (u : Value), [Value.int .i64 (k : Int)][i]? = some u → (wr.alloc (.cells #[.int .i64 k] 3)).cell? ((⟨wr.heap.size, 0, none⟩ : Addr).add i) = some u) := Lib.hid (by
                        intro i u hu
                        have e : (⟨wr.heap.size, 0, none⟩ : Addr).add i = ⟨wr.heap.size, i, none⟩ := by unfold Addr.add; split <;> simp_all
                        rw [e, cell_alloc, if_pos rfl]
                        simpa using hu)
                      have hq40 : Hid (q ≤ 40) := Lib.hid (by have := HI.out.2.2; have := Tsk.mergeUp_len l a b k; omega)
                      go_wp2_with (at_builtin; go_loud (refine wpList_append_own _ rfl (.tmp 160) (.tmp 162) 26 rfl w5.heap.size 3 i1 (.int .i64 0) 1 8 Try.underlying26 hi1 hy0 hy1 hy2 rfl (by decide) _ _ _ rfl (HI.out.2.1.alloc _) ⟨wr.heap.size, 0, none⟩ 1 1 [.int .i64 k] rfl rfl HN.out (by simp [Value.oneCell']) (by have := hq40.out; unfold maxLen; omega) (by have := hq40.out; omega) (by have := HI.out.1.size; rw [size_alloc]; omega) ?_); intro v' w10 hown hgrow _; obtain ⟨g', cap', rfl⟩ := owns_succ hown; have HW10 := Lib.hid hown; have HG10 := Lib.hid hgrow; clear hown hgrow)
                      go_roundw
                      case rel =>
                        refine ⟨k + 1, by omega, by go_num, some ⟨g', 0, none⟩, q + 1, cap', rfl, Lib.hid ⟨?_, ?_, ?_⟩⟩
                        · exact (HI.out.1.alloc HI.out.1.size _).grown HG10.out (by have := HI.out.1.size; rw [size_alloc]; omega) (fun j e => (HI.out.2.1.lt j e).1)
                        · rw [Tsk.mergeUp_succ, ← HDe.out, if_pos rfl]
                          have e : ordC (Tsk.mergeUp l a b k ++ [k]) = ordC (Tsk.mergeUp l a b k) ++ [.int .i64 k] := by simp [ordC]
                          rw [e]
                          exact HW10.out
                        · rw [Tsk.mergeUp_succ, ← HDe.out, if_pos rfl, List.length_append, ← HI.out.2.2]
                          rfl
                      case measure => simp [intOf]; omega
              · obtain rfl : n = k := by omega
                have HRw : Hid (RowT wr g n (tkAt l)) := Lib.hid (by
                  have h1 := HC5.out.below HI.out.1
                  exact h1)
                obtain ⟨_, _, _, aoa, capa, c4, _⟩ := HRw.out.cells a han
                have f4 := HRw.out.frozen (a * 4 + 3)
                have hgl := HRw.out.lt
                obtain ⟨lena, hlena⟩ : ∃ y, y = (tkAt l a).after.length := ⟨_, rfl⟩
                rw [← hlena] at c4
                clear hlena
                obtain ⟨wo, rfl⟩ : ∃ y, y = wr := ⟨_, rfl⟩
                have HM6 : Hid (RowT (wo.setCell ⟨g, a * 4 + 3, none⟩ (.slice vo q vq)) g n (Tsk.moreT l a b)) := Lib.hid (by
                  have hi := ints_of_row HI.out.2.1 HI.out.2.2
                  have hoff : Tsk.ints (Tsk.mergeUp l a b n) = [] ∨ ∀ a', vo = some a' → a'.block ≠ g := by
                    right
                    rintro a' rfl hg
                    have h1 := (HI.out.2.1.lt a'.block rfl).1
                    have h2 := HC5.out.lt
                    omega
                  have h1 := HRw.out.put han hi hoff (vc := vq)
                  have h2 : (Tsk.ints (Tsk.mergeUp l a b n)).length = q := by rw [HI.out.2.2]; simp [Tsk.ints]
                  rw [h2] at h1
                  refine h1.same fun i _ => ?_
                  unfold Tsk.moreT
                  rw [← Hn.out])
                have HB6 : Hid (Below W.heap.size W (wo.setCell ⟨g, a * 4 + 3, none⟩ (.slice vo q vq))) := Lib.hid (Below.setCell (below_step HBW5.out HI.out.1) (p := ⟨g, a * 4 + 3, none⟩) (by show _ ≤ g; have := HB4.out.size; omega) _)
                have hMl : (Tsk.ML l a b).length = n := by rw [Tsk.ML_len, ← Hn.out]
                have HTs : Hid (∀ w', Below (wo.setCell ⟨g, a * 4 + 3, none⟩ (.slice vo q vq)).heap.size (wo.setCell ⟨g, a * 4 + 3, none⟩ (.slice vo q vq)) w' → IsTasks w' (some ⟨g, 0, none⟩) (Tsk.ML l a b)) := Lib.hid fun w' hb => by
                  have h1 := (HM6.out.below hb).tasks
                  rw [Hn.out] at h1
                  exact h1
                have HC2 := Lib.hid fun w' (h : IsTasks w' (some ⟨g, 0, none⟩) (Tsk.ML l a b)) => crit_any (Tsk.ML l a b) (Tsk.ML_fine HVB.out a b) (by omega) (some ⟨g, 0, none⟩) vc w' h
                have HR2 := Lib.hid fun w' (h : IsTasks w' (some ⟨g, 0, none⟩) (Tsk.ML l a b)) (hd : IsBools w' bo done) => ready_any (Tsk.ML l a b) (Tsk.ML_fine HVB.out a b) (by omega) done hdn (some ⟨g, 0, none⟩) bo vc capb w' h hd
                unfold ReadyPost at HR2
                rw [hMl] at HC2
                rw [hMl, ← Hm.out] at HR2
                obtain ⟨E2, HE2⟩ : ∃ y, Hid (y = Tsk.orderE (Tsk.ML l a b)) := ⟨_, Lib.hid rfl⟩
                obtain ⟨cv2, Hcv2⟩ : ∃ y, Hid (y = Tsk.critV (Tsk.ML l a b)) := ⟨_, Lib.hid rfl⟩
                obtain ⟨iv, Hiv⟩ : ∃ y, Hid (y = Tsk.readyV (Tsk.ML l a b) done) := ⟨_, Lib.hid rfl⟩
                rw [← HE2.out, ← Hcv2.out] at HC2
                rw [← Hiv.out] at HR2
                obtain ⟨il, Hil⟩ : ∃ y, Hid (y = iv.length) := ⟨_, Lib.hid rfl⟩
                obtain ⟨wl, Hwl⟩ : ∃ y, Hid (y = wv.length) := ⟨_, Lib.hid rfl⟩
                rw [← Hil.out] at HR2
                rw [← Hwl.out] at HR
                have HSub : Hid (iv.Sublist wv) := Lib.hid (by rw [Hiv.out, Hwv.out]; exact Tsk.more_ready HVB.out a b done)
                have hlen40 : ∀ bs : List Tk, bs.length = n → (Tsk.readyV bs done).length ≤ 40 := fun bs hb => by
                  unfold Tsk.readyV
                  split
                  · have := Tsk.readyUp_len bs done bs.length; omega
                  · simp
                have hil40 : (il : Int) ≤ 40 := by have := hlen40 _ hMl; rw [← Hiv.out, ← Hil.out] at this; omega
                have hwl40 : (wl : Int) ≤ 40 := by have := hlen40 l Hn.out.symm; rw [← Hwv.out, ← Hwl.out] at this; omega
                clear hMl hlen40
                go_wp2_with fail
                obtain ⟨w6, Hw6⟩ : ∃ y, Hid (y = wo.setCell ⟨g, a * 4 + 3, none⟩ (.slice vo q vq)) := ⟨_, Lib.hid rfl⟩
                rw [← Hw6.out] at HTs HB6 ⊢
                clear c4 f4 hgl HM6
                refine (HC2.out _ (HTs.out _ (Below.refl _ _))).mono ?_
                rintro e w7 ⟨rfl, hb⟩
                have HB7 := Lib.hid hb
                clear hb
                go_wp2_with fail
                refine (HR.out _ (HL.out.below (below_step HB6.out HB7.out)) (HD.out.below (below_step HB6.out HB7.out))).mono ?_
                rintro e w8 ⟨o8, k8, rfl, hb, hi⟩
                have HB8 := Lib.hid (below_step HB7.out hb)
                have HI8 := Lib.hid hi
                clear hb hi
                go_wp2_with fail
                refine (HR2.out _ (HTs.out _ HB8.out) (HD.out.below (below_step HB6.out HB8.out))).mono ?_
                rintro e w9 ⟨o9, k9, rfl, hb, hi⟩
                have HB9 := Lib.hid (below_step HB8.out hb)
                have HI8 := Lib.hid (HI8.out.below hb)
                have HI9 := Lib.hid hi
                clear hb hi
                go_wp2
                go_loopw [26, 27] (fun c i wr => ∃ i' : Nat, i' ≤ wl ∧ i = .int .i64 i' ∧ ∃ k' : Nat, k' ≤ il ∧ c = .int .i64 k' ∧ Hid ((iv.drop k').Sublist (wv.drop i')) ∧ Hid (Below w9.heap.size w9 wr)) (fun _ i _ => wl - (intOf i).toNat)
                case atStart => exact ⟨0, by omega, rfl, 0, by omega, rfl, Lib.hid HSub.out, Lib.hid (Below.refl _ _)⟩
                case round =>
                  obtain ⟨i', hi', rfl, k', hk', rfl, HSb, HBl⟩ := hrel
                  by_cases hlti : i' < wl
                  · have hlti' : (i' : Int) < wl := by omega
                    have hiw : i' < wv.length := by rw [← Hwl.out]; exact hlti
                    obtain ⟨b8, p8, rfl, hb8, d8⟩ := ints_at (HI8.out.below HBl.out) hiw
                    obtain ⟨y8, Hy8⟩ : ∃ y : Nat, Hid (y = wv[i']) := ⟨_, Lib.hid rfl⟩
                    rw [← Hy8.out] at d8
                    have l8 := lt_of_cell d8
                    have p1 : ∀ X : Grown wr, X.w.cell? ⟨b8, p8 + i', none⟩ = some (.int .i64 (y8 : Int)) := fun X => by rw [X.cell l8, d8]
                    have hcase : (∃ y9 : Nat, k' < il ∧ y9 = y8 ∧ (iv.drop (k' + 1)).Sublist (wv.drop (i' + 1)) ∧ ∃ b9 p9, o9 = some ⟨b9, p9, none⟩ ∧ b9 < wr.heap.size ∧ wr.cell? ⟨b9, p9 + k', none⟩ = some (.int .i64 (y9 : Int))) ∨
                        (∃ y9 : Nat, k' < il ∧ y9 ≠ y8 ∧ (iv.drop k').Sublist (wv.drop (i' + 1)) ∧ ∃ b9 p9, o9 = some ⟨b9, p9, none⟩ ∧ b9 < wr.heap.size ∧ wr.cell? ⟨b9, p9 + k', none⟩ = some (.int .i64 (y9 : Int))) ∨
                        (¬ k' < il ∧ (iv.drop k').Sublist (wv.drop (i' + 1))) := by
                      rcases Tsk.greedy HSb.out hiw with ⟨h1, h2, h3⟩ | ⟨h1, h2⟩
                      · obtain ⟨b9, p9, e9, hb9, d9⟩ := ints_at (HI9.out.below HBl.out) h1
                        exact Or.inl ⟨iv[k'], by rw [Hil.out]; exact h1, by rw [Hy8.out]; exact h2, h3, b9, p9, e9, hb9, d9⟩
                      · by_cases hki : k' < il
                        · have hki2 : k' < iv.length := by rw [← Hil.out]; exact hki
                          obtain ⟨b9, p9, e9, hb9, d9⟩ := ints_at (HI9.out.below HBl.out) hki2
                          exact Or.inr (Or.inl ⟨iv[k'], hki, by rw [Hy8.out]; exact h1 hki2, h2, b9, p9, e9, hb9, d9⟩)
                        · exact Or.inr (Or.inr ⟨hki, h2⟩)
                    clear hb8 d8
                    rcases hcase with ⟨y9, hki, hy9, hsub, b9, p9, rfl, hb9, d9⟩ | ⟨y9, hki, hy9, hsub, b9, p9, rfl, hb9, d9⟩ | ⟨hki, hsub⟩
                    · have HS2 := Lib.hid hsub
                      have hki' : (k' : Int) < il := by omega
                      have p2 : ∀ X : Grown wr, X.w.cell? ⟨b9, p9 + k', none⟩ = some (.int .i64 (y9 : Int)) := fun X => by rw [X.cell hb9, d9]
                      have ey : ((y9 : Int) == (y8 : Int)) = true := by simp; omega
                      clear hsub d9 hy9
                      go_wp2_with fail
                      refine wp_region_grown (by kernel_rfl) (by kernel_rfl) ?_
                      repeat (go_big_quiet_step (fail))
                      refine wpQuiet_nil ?_
                      rintro _ ⟨X, rfl⟩
                      go_wp2
                      go_roundw
                      case rel => exact ⟨i' + 1, by omega, by go_num, k' + 1, by omega, by go_num, HS2, Lib.hid (HBl.out.trans (X.below.mono HBl.out.size))⟩
                      case measure => simp [intOf]; omega
                    · have HS2 := Lib.hid hsub
                      have hki' : (k' : Int) < il := by omega
                      have p2 : ∀ X : Grown wr, X.w.cell? ⟨b9, p9 + k', none⟩ = some (.int .i64 (y9 : Int)) := fun X => by rw [X.cell hb9, d9]
                      have ey : ((y9 : Int) == (y8 : Int)) = false := by simp; omega
                      clear hsub d9 hy9
                      go_wp2_with fail
                      refine wp_region_grown (by kernel_rfl) (by kernel_rfl) ?_
                      repeat (go_big_quiet_step (fail))
                      refine wpQuiet_nil ?_
                      rintro _ ⟨X, rfl⟩
                      go_wp2
                      go_roundw
                      case rel => exact ⟨i' + 1, by omega, by go_num, k', by omega, rfl, HS2, Lib.hid (HBl.out.trans (X.below.mono HBl.out.size))⟩
                      case measure => simp [intOf]; omega
                    · have HS2 := Lib.hid hsub
                      have hki' : ¬ (k' : Int) < il := by omega
                      have hki2 : decide (k' < il) = false := decide_eq_false hki
                      have hki3 : decide ((k' : Int) < il) = false := decide_eq_false hki'
                      clear hsub
                      go_wp2_with fail
                      refine wp_region_grown (by kernel_rfl) (by kernel_rfl) ?_
                      repeat (go_big_quiet_step (fail))
                      refine wpQuiet_nil ?_
                      rintro _ ⟨X, rfl⟩
                      go_wp2
                      go_roundw
                      case rel => exact ⟨i' + 1, by omega, by go_num, k', by omega, rfl, HS2, Lib.hid (HBl.out.trans (X.below.mono HBl.out.size))⟩
                      case measure => simp [intOf]; omega
                  · have hkil : k' = il := by
                      have h1 := HSb.out
                      rw [List.drop_eq_nil_of_le (by have := Hwl.out; omega : wv.length ≤ i')] at h1
                      have h2 := List.drop_eq_nil_iff.1 (List.sublist_nil.1 h1)
                      have := Hil.out
                      omega
                    obtain rfl : wl = i' := by omega
                    subst hkil
                    have hle : cv ≤ x := by rw [Hcv.out, HSum.out]; exact Tsk.crit_sum HEz.out
                    have ekk : ((k' : Int) == k') = true := by simp
                    have hE2 : E2 = 24 ∨ E2 = 0 := by
                      have h2 : E2 = Tsk.orderE (Tsk.ML l a b) := HE2.out
                      unfold Tsk.orderE at h2
                      rw [if_pos (Tsk.ML_valid HVB.out a b)] at h2
                      split at h2 <;> omega
                    have hge : E2 = 0 → cv ≤ cv2 := fun h => by
                      rw [Hcv.out, Hcv2.out]
                      exact Tsk.more_crit HEz.out (by rw [← HE2.out]; exact h)
                    rcases hE2 with h2 | h2
                    · subst h2
                      clear hge
                      go_wp2
                      go_ret
                      exact ⟨rfl, below_step HB6.out (below_step HB9.out HBl.out)⟩
                    · subst h2
                      have hge2 := hge rfl
                      clear hge
                      go_wp2
                      go_ret
                      exact ⟨rfl, below_step HB6.out (below_step HB9.out HBl.out)⟩
      · have hE24 : E = 24 := by
          have h1 := orderE_cases l
          rw [← HE.out] at h1
          rcases h1 with h1 | h1 | h1
          · exact absurd h1 hE
          · exfalso
            have h2 : E = Tsk.orderE l := HE.out
            unfold Tsk.orderE at h2
            rw [if_pos HVB.out] at h2
            split at h2 <;> omega
          · exact h1
        have hcv0 : cv = 0 := by
          rw [Hcv.out]
          unfold Tsk.critV
          rw [if_neg (by rw [← HE.out]; exact hE)]
        subst hE24 hcv0
        clear hE
        go_wp2
        go_ret
        exact ⟨rfl, HB3.out⟩

end Go.Proofs.Ytejgbfaampllaaa
