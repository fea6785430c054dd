/- The walk of the reference's Sign. -/
import Derived.Test.YtfnbdjjobndgfaaDoorSgnRefA
import Derived.Test.YtfnbdjjobndgfaaDoorSgnHead
import Derived.Test.YtfnbdjjobndgfaaDoorSgnForm
namespace Go.Proofs.YtfnbdjjobndgfaaDoor
open Go.RowKit

def SignPost (sec msg : ByteArray) (h idx : Nat) (w : World) (e : Ending) (w' : World) : Prop :=
  (∃ so po c1 c2, e = .returned (.tuple #[.agg #[.int .i64 idx, .slice so 18 c1, .slice po h c2], .int .i64 0]) ∧ IsStrs w' so (Sgn.sigV sec idx msg) ∧ IsStrs w' po (Sgn.pathV sec h idx)) ∧ Below w.heap.size w w'
theorem IsStrs.only {w w' : World} {F : Nat → Prop} {ao : Option Addr} {l : List ByteArray} (h : IsStrs w ao l) (ho : Only F w w') (hf : ∀ b, F b → ∃ t cs, Whole w b t cs ∧ ∀ (k : Nat) s, cs[k]? ≠ some (Value.string s)) : IsStrs w' ao l := by
  rcases h with h | ⟨bk, off, h1, h2, h3⟩
  · exact Or.inl h
  · refine Or.inr ⟨bk, off, h1, Nat.lt_of_lt_of_le h2 ho.size, fun k hk => ho.cell (h3 k hk) fun hF => ?_⟩
    obtain ⟨t, cs, hw, hn⟩ := hf bk hF
    have := h3 k hk
    rw [hw.cell] at this
    exact hn _ _ this
theorem seal_nostr (i : Int) (a b : Option Addr) (n c m d : Nat) : ∀ (k : Nat) s, (#[Value.int .i64 i, .slice a n c, .slice b m d] : Array Value)[k]? ≠ some (Value.string s) := by
  intro k s hk
  rcases k with _ | _ | _ | k <;> simp at hk
def sigUp (sec : ByteArray) (i : Nat) (m : ByteArray) (n : Nat) : List ByteArray := (List.range n).map fun k => Sgn.chainV (Sgn.dAt m k) (Sgn.startV sec i k)
theorem sigUp_succ (sec : ByteArray) (i : Nat) (m : ByteArray) (n : Nat) : sigUp sec i m (n + 1) = sigUp sec i m n ++ [Sgn.chainV (Sgn.dAt m n) (Sgn.startV sec i n)] := by
  unfold sigUp
  rw [List.range_succ, List.map_append]
  rfl

set_option maxRecDepth 100000 in
set_option maxHeartbeats 8000000 in
theorem refSign_good (sec msg : ByteArray) (hs : sec.size ≤ 300) (hm : msg.size ≤ 140737488351232) (h idx : Nat) (hh : h ≤ 8) (hi : idx < 2 ^ h) (w : World) :
    Calls Tryd.prog 16 #[.string sec, .int .i64 h, .int .i64 idx, .string msg] w (SignPost sec msg h idx w) := by
  obtain ⟨i1, hi1, hy0, hy1, hy2⟩ := info_parts info_str
  obtain ⟨N, HN⟩ : ∃ N, Hid (N = 2 ^ h) := ⟨_, Lib.hid rfl⟩
  have hN8 : N ≤ 256 := by rw [HN.out]; exact Nat.pow_le_pow_right (by decide) hh
  have HPw : Hid (∀ X, Calls Tryd.prog 33 #[.int .i64 h] X fun e w' => e = .returned (.int .i64 (N : Int)) ∧ X = w') := Lib.hid fun X => by rw [HN.out]; exact refPower_any h hh X
  have HKy : Hid (∀ X, Calls Tryd.prog 29 #[.string sec, .int .i64 h] X fun e w' => ∃ vo vc, e = .returned (.slice vo N vc) ∧ IsStrs w' vo (Sgn.level sec h 0) ∧ Below X.heap.size X w') := Lib.hid fun X => by rw [HN.out]; exact refKeys_any sec hs h hh X
  have HPt : Hid (∀ X vo vc, IsStrs X vo (Sgn.level sec h 0) → Calls Tryd.prog 37 #[.slice vo N vc, .int .i64 idx] X fun e w' => ∃ vo vc, e = .returned (.slice vo h vc) ∧ IsStrs w' vo (Sgn.pathV sec h idx) ∧ Below X.heap.size X w') := Lib.hid fun X vo vc hX => by rw [HN.out]; exact refPath_any sec h idx hh hi vo vc X hX
  have hi3 : idx < 1000 := Nat.lt_of_lt_of_le hi (Nat.le_trans (Nat.pow_le_pow_right (by decide) hh) (show 2 ^ 8 ≤ 1000 by decide))
  have HSt : Hid (∀ k : Nat, k < 18 → ∀ X, Calls Tryd.prog 36 #[.string sec, .int .i64 idx, .int .i64 k] X fun e w' => e = .returned (.string (Sgn.startV sec idx k)) ∧ Below X.heap.size X w') := Lib.hid fun k hk X => refStart_any sec hs idx k hi3 (by omega) X
  have hiN : idx < N := by rw [HN.out]; exact hi
  have d0 : decide ((h : Int) < 0) = false := decide_eq_false (by omega)
  have d1 : decide ((8 : Int) < h) = false := decide_eq_false (by omega)
  have d2 : decide ((idx : Int) < 0) = false := decide_eq_false (by omega)
  have d3 : decide ((N : Int) ≤ idx) = false := decide_eq_false (by omega)
  have d1n : decide (8 < h) = false := decide_eq_false (by omega)
  have d3n : decide (N ≤ idx) = false := decide_eq_false (by omega)
  have HDi := Lib.hid fun (X : World) => refDig_any msg hm X
  clear hs hi hm
  go_enter Tryd.func16, Tryd.ntmps16
  go_wp2_with fail
  refine (HPw.out _).mono ?_
  rintro e _ ⟨rfl, rfl⟩
  go_wp2_with fail
  obtain ⟨W0, HW0⟩ : ∃ x, Hid (x = (w.alloc (.cells #[.int .i64 0, .slice none 0 0, .slice none 0 0] 24)).alloc (.cells #[.int .i64 idx, .slice none 0 0, .slice none 0 0] 24)) := ⟨_, Lib.hid rfl⟩
  have HB0 : Hid (Below w.heap.size w W0) := Lib.hid (by
    rw [HW0.out]
    exact ((Below.refl _ _).alloc (Nat.le_refl _) _).alloc (by rw [size_alloc]; omega) _)
  have HR0 : Hid (Whole W0 w.heap.size 24 #[.int .i64 0, .slice none 0 0, .slice none 0 0]) := Lib.hid (by
    rw [HW0.out]
    exact (Whole.new _ _ _).alloc _)
  have HS0 : Hid (Whole W0 (w.heap.size + 1) 24 #[.int .i64 idx, .slice none 0 0, .slice none 0 0]) := Lib.hid (by
    rw [HW0.out]
    have := Whole.new (w.alloc (.cells #[.int .i64 0, .slice none 0 0, .slice none 0 0] 24)) 24 #[.int .i64 idx, .slice none 0 0, .slice none 0 0]
    rwa [size_alloc] at this)
  rw [← HW0.out]
  refine (HDi.out _).mono ?_
  rintro e W1 ⟨gd, cd, rfl, hdg, hb⟩
  have HB01 := Lib.hid hb
  have HDg := Lib.hid hdg
  have HB1 := Lib.hid (HB0.out.trans (hb.mono HB0.out.size))
  obtain ⟨R, HRq⟩ : ∃ x, Hid (x = w.heap.size) := ⟨_, Lib.hid rfl⟩
  obtain ⟨B, HBq⟩ : ∃ x, Hid (x = w.heap.size + 1) := ⟨_, Lib.hid rfl⟩
  rw [← HRq.out] at HR0
  rw [← HBq.out] at HS0 ⊢
  rw [← HRq.out]
  have HR1 := Lib.hid ((hb.block _ HR0.out.lt).trans HR0.out)
  have HS1 := Lib.hid ((hb.block _ HS0.out.lt).trans HS0.out)
  clear hb hdg HW0
  go_wp2_with fail
  go_loopw [12] (fun i wr => ∃ n : Nat, n ≤ 18 ∧ i = .int .i64 n ∧ ∃ vo vc, Hid (Whole wr B 24 #[.int .i64 idx, .slice vo n vc, .slice none 0 0]) ∧ Hid (wr.ownsRow W1.heap.size 9 1 (.slice vo n vc) n (strC (sigUp sec idx msg n))) ∧ Hid (Only (fun b => b = B) W1 wr)) (fun i _ => 18 - (intOf i).toNat)
  case atStart => exact ⟨0, by omega, rfl, none, 0, HS1, Lib.hid (World.ownsRow_nil _ _ _ _), Lib.hid (Only.refl _ _)⟩
  case round =>
    obtain ⟨n, hn, rfl, vo, vc, HWc, HRow, HOn⟩ := hrel
    by_cases hlt : n < 18
    · have hlt' : (n : Int) < 18 := by omega
      have u1 : wr.cell? ⟨B, 1, none⟩ = some (.slice vo n vc) := HWc.out.cell 1
      obtain ⟨d, Hd⟩ : ∃ x, Hid (x = Sgn.dAt msg n) := ⟨_, Lib.hid rfl⟩
      have hd15 : d ≤ 15 := by rw [Hd.out]; exact Sgn.dAt_le _ _
      have u2 : wr.cell? ⟨gd, n, none⟩ = some (.int .i64 (d : Int)) := by
        have h1 := HDg.out.2 n hlt
        rw [← Hd.out] at h1
        refine HOn.out.cell h1 ?_
        rintro rfl
        have h2 := HS1.out
        have h3 : W1.cell? ⟨gd, 0, none⟩ = some (.int .i64 idx) := Whole.cell h2 0
        have h4 : W1.cell? ⟨gd, 1, none⟩ = some (.slice none 0 0) := Whole.cell h2 1
        rw [HDg.out.2 1 (by decide)] at h4
        cases h4
      have e1 : ∀ X : Grown wr, X.w.cell? ⟨B, 1, none⟩ = some (.slice vo n vc) := fun X => (X.cell (lt_of_cell u1)).trans u1
      have e2 : ∀ X : Grown wr, X.w.cell? ⟨gd, n, none⟩ = some (.int .i64 (d : Int)) := fun X => (X.cell (lt_of_cell u2)).trans u2
      obtain ⟨sv, Hsv⟩ : ∃ y, Hid (y = Sgn.startV sec idx n) := ⟨_, Lib.hid rfl⟩
      have HStn : Hid (∀ X, Calls Tryd.prog 36 #[.string sec, .int .i64 idx, .int .i64 n] X fun e w' => e = .returned (.string sv) ∧ Below X.heap.size X w') := Lib.hid fun X => by
        rw [Hsv.out]; exact HSt.out n hlt X
      have HCh := Lib.hid fun (X : World) => refChain_any sv (by rw [Hsv.out, startV_size]; decide) d (by omega) X
      obtain ⟨cv, Hcv⟩ : ∃ y, Hid (y = Sgn.chainV d sv) := ⟨_, Lib.hid rfl⟩
      rw [← Hcv.out] at HCh
      clear u1 u2
      go_wp2_with fail
      refine (wpIn_wide (n := 1)).1 ?_
      refine wpIn_region_calm [0, 1, 2, 3, 4, 6, 7, 8, 9] [5, 10, 11, 12, 13, 14] [12, 13, 14] (fun w' => ∃ X : Grown wr, w' = X.w) (by kernel_rfl) (by kernel_rfl) rfl (by kernel_rfl) (by kernel_rfl) ⟨⟨wr.drew, (Below.refl _ _).drew⟩, rfl⟩ ?_
      simp only [List.filterMap_cons, List.filterMap_nil, List.getElem?_toArray, List.getElem?_cons_zero, List.getElem?_cons_succ]
      refine (show wpQuiet _ _ _ _ (_ :: _ :: _ :: _ :: _ :: _ :: _ :: _ :: _ :: []) _ from ?_)
      repeat (go_big_quiet_step (fail))
      refine wpQuiet_nil ?_
      refine wpTail_cons rfl rfl fun K hK => ?_
      go_simp
      refine ⟨trivial, ?_⟩
      refine (callsIn_wide.2 (HStn.out wr.drew)).mono ?_
      rintro e X0 ⟨rfl, hb⟩
      have HX0 : Hid (Below wr.heap.size wr X0) := Lib.hid ((Below.refl _ _).drew.trans hb)
      refine hK _ _ (fun _ => ⟨⟨X0, HX0.out⟩, rfl⟩) ?_
      clear hK K hb
      refine wpTail_cons rfl rfl fun K hK => ?_
      go_simp
      refine ⟨trivial, ?_⟩
      refine (callsIn_wide.2 (HCh.out X0)).mono ?_
      rintro e _ ⟨rfl, rfl⟩
      refine hK _ _ (fun _ => ⟨⟨X0, HX0.out⟩, rfl⟩) ?_
      clear hK K
      refine wpTail_cons rfl rfl fun K hK => ?_
      go_simp
      refine hK _ _ (fun _ => ⟨⟨X0.alloc (.cells #[.string cv] 9), HX0.out.alloc HX0.out.size _⟩, rfl⟩) ?_
      clear hK K
      have HR2 : Hid (X0.ownsRow W1.heap.size 9 1 (.slice vo n vc) n (strC (sigUp sec idx msg n))) := Lib.hid (owns_grown HRow.out HX0.out)
      have HW2 : Hid (Whole X0 B 24 #[.int .i64 idx, .slice vo n vc, .slice none 0 0]) := Lib.hid ((HX0.out.block _ HWc.out.lt).trans HWc.out)
      have HO0 : Hid (Only (fun b => b = B) W1 X0) := Lib.hid (HOn.out.trans (Only.of_below _ HX0.out))
      have HNw := Lib.hid (newStr X0 cv)
      refine wpTail_cons rfl rfl fun K hK => ?_
      refine wpIn_append_lies _ (.tmp 39) (.tmp 49) 22 rfl W1.heap.size 9 i1 (.string ⟨#[]⟩) 1 16 Tryd.underlying22 hi1 hy0 hy1 hy2 rfl (by decide) (.slice vo n vc) n (strC (sigUp sec idx msg n)) (by simp [Act.eval]) (HR2.out.alloc _) ⟨X0.heap.size, 0, none⟩ 1 1 [.string cv] (by simp [Act.eval]) rfl HNw.out (by simp [Value.oneCell']) (by decide) (by unfold maxLen; omega) (by omega) (by rw [size_alloc]; have := HO0.out.size; omega) ?_
      intro g' cap' w10 hown hgrow _ _
      refine hK _ _ (fun h => absurd h (by decide)) ?_
      clear hK K
      have hne : (Value.slice vo n vc).ownBlock ≠ some B := owns_ne' HR2.out HW2.out (by decide)
      have HC10 : Hid (Whole w10 B 24 #[.int .i64 idx, .slice vo n vc, .slice none 0 0]) := Lib.hid ((hgrow.block B (by rw [size_alloc]; have := HW2.out.lt; omega) (fun hh => hne hh.symm)).trans (HW2.out.alloc _))
      have y1 : w10.cell? ⟨B, 1, none⟩ = some (.slice vo n vc) := HC10.out.cell 1
      have y2 := HC10.out.frozen 1
      have HO := Lib.hid hown
      have HOn10 : Hid (Only (fun b => b = B) W1 w10) := Lib.hid ((HO0.out.alloc _).next (G := fun b => (Value.slice vo n vc).ownBlock = some b) (Only.of_grown hgrow fun k e => e) (fun b hb => Or.inr (HR2.out.lt b hb).1))
      clear hown hgrow e1 e2
      refine wpTail_cons rfl rfl fun K hK => ?_
      go_simp
      refine hK _ _ (fun h => absurd h (by decide)) ?_
      clear hK K
      refine wpTail_cons rfl rfl fun K hK => ?_
      go_simp
      refine hK _ _ (fun h => absurd h (by decide)) ?_
      clear hK K
      refine wpTail_calm ?_
      go_wp2_with fail
      go_roundw
      case rel =>
        refine ⟨n + 1, by omega, by go_num, some ⟨g', 0, none⟩, cap', Lib.hid (HC10.out.set 1 _), Lib.hid ?_, Lib.hid (HOn10.out.setCell (Or.inl rfl) _)⟩
        have hne2 : (Value.slice (some ⟨g', 0, none⟩) (n + 1) cap').ownBlock ≠ some B := owns_ne' HO.out HC10.out (by decide)
        have e : strC (sigUp sec idx msg (n + 1)) = strC (sigUp sec idx msg n) ++ [.string cv] := by rw [sigUp_succ, strC_snoc, Hcv.out, Hd.out, Hsv.out]
        rw [e]
        exact HO.out.kept (row := some B) ⟨rfl, rfl, rfl, by simp, fun j _ hj => Below.heap_setCell _ _ _ _ (fun e => hj (by rw [e]))⟩ (Or.inr hne2)
      case measure => simp [intOf]; omega
    · obtain rfl : n = 18 := by omega
      have hRB : R < B := by rw [HRq.out, HBq.out]; omega
      have hRB2 : ¬ R = B := by omega
      have hRB3 : ¬ B = R := by omega
      have hBW : B < W1.heap.size := (Array.getElem?_eq_some_iff.1 HS1.out).1
      have HRr : Hid (Whole wr R 24 #[.int .i64 0, .slice none 0 0, .slice none 0 0]) := Lib.hid (HOn.out.whole HR1.out hRB2)
      go_wp2_with fail
      refine (HKy.out _).mono ?_
      rintro e w3 ⟨vo3, vc3, rfl, hlv, hb⟩
      have HB3 := Lib.hid hb
      have HLv := Lib.hid hlv
      clear hb hlv
      go_wp2_with fail
      refine (HPt.out _ _ _ HLv.out).mono ?_
      rintro e w4 ⟨po, pc, rfl, hp, hb⟩
      have HB4 : Hid (Below wr.heap.size wr w4) := Lib.hid (below_step HB3.out hb)
      have HPp := Lib.hid hp
      have HW4 : Hid (Whole w4 B 24 #[.int .i64 idx, .slice vo 18 vc, .slice none 0 0]) := Lib.hid ((HB4.out.block _ HWc.out.lt).trans HWc.out)
      have HR4 : Hid (Whole w4 R 24 #[.int .i64 0, .slice none 0 0, .slice none 0 0]) := Lib.hid ((HB4.out.block _ HRr.out.lt).trans HRr.out)
      have HV4 : Hid (IsStrs w4 vo (Sgn.sigV sec idx msg)) := Lib.hid (strs_of_row (l := sigUp sec idx msg 18) (owns_grown HRow.out HB4.out) (by simp [sigUp]))
      have k0 : w4.cell? ⟨B, 0, none⟩ = some (.int .i64 idx) := HW4.out.cell 0
      have k1 : w4.cell? ⟨B, 1, none⟩ = some (.slice vo 18 vc) := HW4.out.cell 1
      have k2 : w4.cell? ⟨B, 2, none⟩ = some (.slice none 0 0) := HW4.out.cell 2
      have k3 := HW4.out.frozen 2
      have c0 : w4.cell? ⟨R, 0, none⟩ = some (.int .i64 0) := HR4.out.cell 0
      have c1 : w4.cell? ⟨R, 1, none⟩ = some (.slice none 0 0) := HR4.out.cell 1
      have c2 : w4.cell? ⟨R, 2, none⟩ = some (.slice none 0 0) := HR4.out.cell 2
      have f0 := HR4.out.frozen 0
      have f1 := HR4.out.frozen 1
      have f2 := HR4.out.frozen 2
      clear hb hp
      go_wp2_with fail
      have HO5 : Hid (Only (fun b => b = B ∨ b = R) w4 ((((w4.setCell ⟨B, 2, none⟩ (.slice po h pc)).setCell ⟨R, 0, none⟩ (.int .i64 idx)).setCell ⟨R, 1, none⟩ (.slice vo 18 vc)).setCell ⟨R, 2, none⟩ (.slice po h pc))) := Lib.hid (((((Only.refl (fun b => b = B ∨ b = R) w4).setCell (p := ⟨B, 2, none⟩) (Or.inl (Or.inl rfl)) _).setCell (p := ⟨R, 0, none⟩) (Or.inl (Or.inr rfl)) _).setCell (p := ⟨R, 1, none⟩) (Or.inl (Or.inr rfl)) _).setCell (p := ⟨R, 2, none⟩) (Or.inl (Or.inr rfl)) _)
      have HWe : Hid (Whole ((((w4.setCell ⟨B, 2, none⟩ (.slice po h pc)).setCell ⟨R, 0, none⟩ (.int .i64 idx)).setCell ⟨R, 1, none⟩ (.slice vo 18 vc)).setCell ⟨R, 2, none⟩ (.slice po h pc)) R 24 #[.int .i64 idx, .slice vo 18 vc, .slice po h pc]) := Lib.hid ((((HR4.out.far (p := ⟨B, 2, none⟩) hRB2 _).set 0 _).set 1 _).set 2 _)
      generalize ((((w4.setCell ⟨B, 2, none⟩ (.slice po h pc)).setCell ⟨R, 0, none⟩ (.int .i64 idx)).setCell ⟨R, 1, none⟩ (.slice vo 18 vc)).setCell ⟨R, 2, none⟩ (.slice po h pc)) = W5 at HO5 HWe ⊢
      have g0 : W5.cell? ⟨R, 0, none⟩ = some (.int .i64 idx) := HWe.out.cell 0
      have g1 : W5.cell? ⟨R, 1, none⟩ = some (.slice vo 18 vc) := HWe.out.cell 1
      have g2 : W5.cell? ⟨R, 2, none⟩ = some (.slice po h pc) := HWe.out.cell 2
      have hns : ∀ b, (b = B ∨ b = R) → ∃ t cs, Whole w4 b t cs ∧ ∀ (k : Nat) s, cs[k]? ≠ some (Value.string s) := by
        rintro b (rfl | rfl)
        · exact ⟨_, _, HW4.out, seal_nostr _ _ _ _ _ _ _⟩
        · exact ⟨_, _, HR4.out, seal_nostr _ _ _ _ _ _ _⟩
      have HBe : Hid (Below w.heap.size w W5) := Lib.hid (by
        have h1 : Only (fun b => b = B ∨ b = R) W1 W5 := ((HOn.out.mono (fun b hb => Or.inl hb)).trans (Only.of_below _ HB4.out)).trans HO5.out
        exact HB1.out.trans (h1.below (B := w.heap.size) HB1.out.size (fun b hb => by
          have := HRq.out
          have := HBq.out
          rcases hb with hb | hb <;> omega)))
      refine bodyPost_ret (v := .tuple #[.agg #[.int .i64 idx, .slice vo 18 vc, .slice po h pc], .int .i64 0]) (by simp [results, Tryd.results16, go_sem, g0, g1, g2]) rfl ⟨⟨vo, po, vc, pc, rfl, HV4.out.only HO5.out hns, HPp.out.only HO5.out hns⟩, HBe.out⟩

set_option maxRecDepth 100000 in
set_option maxHeartbeats 4000000 in
theorem refSign_bad (sec msg : ByteArray) (h idx : Int) (hb : (decide (0 ≤ h) && decide (h ≤ 8)) = false ∨ idx < 0 ∨ ∃ k : Nat, h = k ∧ k ≤ 8 ∧ ((2 ^ k : Nat) : Int) ≤ idx) (w : World) :
    Calls Tryd.prog 16 #[.string sec, .int .i64 h, .int .i64 idx, .string msg] w fun e w' => e = .returned noSeal ∧ Below w.heap.size w w' := by
  have HW0 := Lib.hid (Whole.new w 24 #[.int .i64 0, .slice none 0 0, .slice none 0 0])
  have HB0 : Hid (Below w.heap.size w (w.alloc (.cells #[.int .i64 0, .slice none 0 0, .slice none 0 0] 24))) := Lib.hid ((Below.refl _ _).alloc (Nat.le_refl _) _)
  by_cases h0 : h < 0
  · have d0 : decide (h < 0) = true := decide_eq_true h0
    clear hb
    go_enter Tryd.func16, Tryd.ntmps16
    go_wp2_with fail
    have HWe := HW0
    have HBe := HB0
    generalize w.alloc (.cells #[.int .i64 0, .slice none 0 0, .slice none 0 0] 24) = W5 at HWe HBe ⊢
    have g0 : W5.cell? ⟨w.heap.size, 0, none⟩ = some (.int .i64 0) := HWe.out.cell 0
    have g1 : W5.cell? ⟨w.heap.size, 1, none⟩ = some (.slice none 0 0) := HWe.out.cell 1
    have g2 : W5.cell? ⟨w.heap.size, 2, none⟩ = some (.slice none 0 0) := HWe.out.cell 2
    refine bodyPost_ret (v := noSeal) (by simp [results, Tryd.results16, go_sem, noSeal, g0, g1, g2]) rfl ⟨rfl, HBe.out⟩
  · have d0 : decide (h < 0) = false := decide_eq_false h0
    by_cases h8 : 8 < h
    · have d1 : decide (8 < h) = true := decide_eq_true h8
      clear hb
      go_enter Tryd.func16, Tryd.ntmps16
      go_wp2_with fail
      have HWe := HW0
      have HBe := HB0
      generalize w.alloc (.cells #[.int .i64 0, .slice none 0 0, .slice none 0 0] 24) = W5 at HWe HBe ⊢
      have g0 : W5.cell? ⟨w.heap.size, 0, none⟩ = some (.int .i64 0) := HWe.out.cell 0
      have g1 : W5.cell? ⟨w.heap.size, 1, none⟩ = some (.slice none 0 0) := HWe.out.cell 1
      have g2 : W5.cell? ⟨w.heap.size, 2, none⟩ = some (.slice none 0 0) := HWe.out.cell 2
      refine bodyPost_ret (v := noSeal) (by simp [results, Tryd.results16, go_sem, noSeal, g0, g1, g2]) rfl ⟨rfl, HBe.out⟩
    · have d1 : decide (8 < h) = false := decide_eq_false h8
      by_cases hi : idx < 0
      · have d2 : decide (idx < 0) = true := decide_eq_true hi
        clear hb
        go_enter Tryd.func16, Tryd.ntmps16
        go_wp2_with fail
        have HWe := HW0
        have HBe := HB0
        generalize w.alloc (.cells #[.int .i64 0, .slice none 0 0, .slice none 0 0] 24) = W5 at HWe HBe ⊢
        have g0 : W5.cell? ⟨w.heap.size, 0, none⟩ = some (.int .i64 0) := HWe.out.cell 0
        have g1 : W5.cell? ⟨w.heap.size, 1, none⟩ = some (.slice none 0 0) := HWe.out.cell 1
        have g2 : W5.cell? ⟨w.heap.size, 2, none⟩ = some (.slice none 0 0) := HWe.out.cell 2
        refine bodyPost_ret (v := noSeal) (by simp [results, Tryd.results16, go_sem, noSeal, g0, g1, g2]) rfl ⟨rfl, HBe.out⟩
      · have d2 : decide (idx < 0) = false := decide_eq_false hi
        obtain ⟨k, rfl, hk, h2⟩ : ∃ k : Nat, h = k ∧ k ≤ 8 ∧ ((2 ^ k : Nat) : Int) ≤ idx := by
          rcases hb with hb | hb | hb
          · rw [decide_eq_true (show 0 ≤ h by omega), decide_eq_true (show h ≤ 8 by omega)] at hb
            cases hb
          · exact absurd hb hi
          · exact hb
        obtain ⟨N, HN⟩ : ∃ N, Hid (N = 2 ^ k) := ⟨_, Lib.hid rfl⟩
        have HPw : Hid (∀ X, Calls Tryd.prog 33 #[.int .i64 k] X fun e w' => e = .returned (.int .i64 (N : Int)) ∧ X = w') := Lib.hid fun X => by rw [HN.out]; exact refPower_any k hk X
        rw [← HN.out] at h2
        have d3 : decide ((N : Int) ≤ idx) = true := decide_eq_true h2
        clear h2 hb
        go_enter Tryd.func16, Tryd.ntmps16
        go_wp2_with fail
        refine (HPw.out _).mono ?_
        rintro e _ ⟨rfl, rfl⟩
        go_wp2_with fail
        have HWe := HW0
        have HBe := HB0
        generalize w.alloc (.cells #[.int .i64 0, .slice none 0 0, .slice none 0 0] 24) = W5 at HWe HBe ⊢
        have g0 : W5.cell? ⟨w.heap.size, 0, none⟩ = some (.int .i64 0) := HWe.out.cell 0
        have g1 : W5.cell? ⟨w.heap.size, 1, none⟩ = some (.slice none 0 0) := HWe.out.cell 1
        have g2 : W5.cell? ⟨w.heap.size, 2, none⟩ = some (.slice none 0 0) := HWe.out.cell 2
        refine bodyPost_ret (v := noSeal) (by simp [results, Tryd.results16, go_sem, noSeal, g0, g1, g2]) rfl ⟨rfl, HBe.out⟩

end Go.Proofs.YtfnbdjjobndgfaaDoor

/- The walk of the reference's Verify. -/
namespace Go.Proofs.YtfnbdjjobndgfaaDoor
open Go.RowKit

def endsTo (m : ByteArray) (sig : List ByteArray) (n : Nat) : List ByteArray := (List.range n).map fun k => Sgn.chainV (15 - Sgn.dAt m k) (Sgn.at_ sig k)
theorem endsTo_succ (m : ByteArray) (sig : List ByteArray) (n : Nat) : endsTo m sig (n + 1) = endsTo m sig n ++ [Sgn.chainV (15 - Sgn.dAt m n) (Sgn.at_ sig n)] := by
  unfold endsTo
  rw [List.range_succ, List.map_append]
  rfl
theorem verify_no {pub m : ByteArray} {idx : Int} {sig path : List ByteArray} (h : ¬ (sig.length = 18 ∧ path.length ≤ 8 ∧ 0 ≤ idx ∧ idx < ((2 ^ path.length : Nat) : Int))) : Sgn.verifyB pub m idx sig path = false := by
  cases hv : Sgn.verifyB pub m idx sig path with
  | false => rfl
  | true =>
    obtain ⟨h1, h2, _, _, j, rfl, h3, _⟩ := verify_parts hv
    exact absurd ⟨h1, h2, by omega, by omega⟩ h
theorem verify_bad {pub m : ByteArray} {idx : Int} {sig path : List ByteArray} {s : ByteArray} (hs : s ∈ sig ∨ s ∈ path) (h : Dig.isB s.data.toList = false) : Sgn.verifyB pub m idx sig path = false := by
  cases hv : Sgn.verifyB pub m idx sig path with
  | false => rfl
  | true =>
    obtain ⟨_, _, h1, h2, _⟩ := verify_parts hv
    rcases hs with hs | hs
    · rw [List.all_eq_true.1 h1 s hs] at h; cases h
    · rw [List.all_eq_true.1 h2 s hs] at h; cases h

set_option maxRecDepth 100000 in
set_option maxHeartbeats 4000000 in
theorem refVerify_off (pub m : ByteArray) (idx : Int) (so po : Option Addr) (c1 c2 n p : Nat) (h : ¬ (n = 18 ∧ p ≤ 8 ∧ 0 ≤ idx ∧ idx < ((2 ^ p : Nat) : Int))) (w : World) :
    Calls Tryd.prog 19 #[.string pub, .string m, .agg #[.int .i64 idx, .slice so n c1, .slice po p c2]] w fun e w' => e = .returned (.bool false) ∧ Below w.heap.size w w' := by
  obtain ⟨W0, HW0⟩ : ∃ x, Hid (x = w.alloc (.cells #[.int .i64 idx, .slice so n c1, .slice po p c2] 24)) := ⟨_, Lib.hid rfl⟩
  have HB0 : Hid (Below w.heap.size w W0) := Lib.hid (by rw [HW0.out]; exact (Below.refl _ _).alloc (Nat.le_refl _) _)
  have HA : Hid (Whole W0 w.heap.size 24 #[.int .i64 idx, .slice so n c1, .slice po p c2]) := Lib.hid (by rw [HW0.out]; exact Whole.new _ _ _)
  have e0 : ∀ X : Grown W0, X.w.cell? ⟨w.heap.size, 0, none⟩ = some (.int .i64 idx) := fun X => (seal_cells X.below HA.out).1
  have e1 : ∀ X : Grown W0, X.w.cell? ⟨w.heap.size, 1, none⟩ = some (.slice so n c1) := fun X => (seal_cells X.below HA.out).2.1
  have e2 : ∀ X : Grown W0, X.w.cell? ⟨w.heap.size, 2, none⟩ = some (.slice po p c2) := fun X => (seal_cells X.below HA.out).2.2
  by_cases h1 : n = 18
  · subst h1
    by_cases h2 : p ≤ 8
    · by_cases h3 : idx < 0
      · have d1 : decide ((8 : Int) < p) = false := decide_eq_false (by omega)
        have d1n : decide (8 < p) = false := decide_eq_false (by omega)
        have d2 : decide (idx < 0) = true := decide_eq_true h3
        clear h
        go_enter Tryd.func19, Tryd.ntmps19
        go_wp2_with fail
        rw [← HW0.out]
        refine wp_region_grown (by kernel_rfl) (by kernel_rfl) ?_
        repeat (go_big_quiet_step (fail))
        refine wpQuiet_nil ?_
        rintro _ ⟨X, rfl⟩
        have HX := Lib.hid (below_step HB0.out X.below)
        generalize X.w = W1 at HX ⊢
        go_wp2_with fail
        go_ret
        exact ⟨rfl, HX.out⟩
      · have d1 : decide ((8 : Int) < p) = false := decide_eq_false (by omega)
        have d1n : decide (8 < p) = false := decide_eq_false (by omega)
        have d2 : decide (idx < 0) = false := decide_eq_false h3
        obtain ⟨N, HN⟩ : ∃ N, Hid (N = 2 ^ p) := ⟨_, Lib.hid rfl⟩
        have HPw : Hid (∀ X, Calls Tryd.prog 33 #[.int .i64 p] X fun e w' => e = .returned (.int .i64 (N : Int)) ∧ X = w') := Lib.hid fun X => by rw [HN.out]; exact refPower_any p h2 X
        have d3 : decide ((N : Int) ≤ idx) = true := decide_eq_true (by
          rw [HN.out]
          have : ¬ idx < ((2 ^ p : Nat) : Int) := fun hh => h ⟨rfl, h2, by omega, hh⟩
          omega)
        clear h
        go_enter Tryd.func19, Tryd.ntmps19
        go_wp2_with fail
        rw [← HW0.out]
        refine wp_region_grown (by kernel_rfl) (by kernel_rfl) ?_
        repeat (go_big_quiet_step (exact grown_of_same (HPw.out _)))
        refine wpQuiet_nil ?_
        rintro _ ⟨X, rfl⟩
        have HX := Lib.hid (below_step HB0.out X.below)
        generalize X.w = W1 at HX ⊢
        go_wp2_with fail
        go_ret
        exact ⟨rfl, HX.out⟩
    · have d1 : decide ((8 : Int) < p) = true := decide_eq_true (by omega)
      have d1n : decide (8 < p) = true := decide_eq_true (by omega)
      clear h
      go_enter Tryd.func19, Tryd.ntmps19
      go_wp2_with fail
      rw [← HW0.out]
      refine wp_region_grown (by kernel_rfl) (by kernel_rfl) ?_
      repeat (go_big_quiet_step (fail))
      refine wpQuiet_nil ?_
      rintro _ ⟨X, rfl⟩
      have HX := Lib.hid (below_step HB0.out X.below)
      generalize X.w = W1 at HX ⊢
      go_wp2_with fail
      go_ret
      exact ⟨rfl, HX.out⟩
  · have d1 : ¬ (n : Int) = 18 := by omega
    have d1n : decide ((n : Int) = 18) = false := decide_eq_false d1
    have d1m : ((n : Int) == 18) = false := by simp; omega
    have d1o : ((n : Int) != 18) = true := by simp; omega
    have d1p : (n != 18) = true := by simp; omega
    have d1q : (n == 18) = false := by simp; omega
    clear h
    go_enter Tryd.func19, Tryd.ntmps19
    go_wp2_with fail
    rw [← HW0.out]
    refine wp_region_grown (by kernel_rfl) (by kernel_rfl) ?_
    repeat (go_big_quiet_step (fail))
    refine wpQuiet_nil ?_
    rintro _ ⟨X, rfl⟩
    have HX := Lib.hid (below_step HB0.out X.below)
    generalize X.w = W1 at HX ⊢
    go_wp2_with fail
    go_ret
    exact ⟨rfl, HX.out⟩

set_option maxRecDepth 100000 in
set_option maxHeartbeats 8000000 in
theorem refVerify_on (pub m : ByteArray) (hm : m.size ≤ 140737488351232) (j : Nat) (so po : Option Addr) (c1 c2 : Nat) (sig path : List ByteArray) (h18 : sig.length = 18) (h8 : path.length ≤ 8) (hj : j < 2 ^ path.length)
    (hz1 : ∀ s ∈ sig, s.size ≤ 300) (hz2 : ∀ s ∈ path, s.size ≤ 300) (w : World) (h1 : IsStrs w so sig) (h2 : IsStrs w po path) :
    Calls Tryd.prog 19 #[.string pub, .string m, .agg #[.int .i64 j, .slice so 18 c1, .slice po path.length c2]] w fun e w' => e = .returned (.bool (Sgn.verifyB pub m j sig path)) ∧ Below w.heap.size w w' := by
  obtain ⟨i1, hi1, hy0, hy1, hy2⟩ := info_parts info_str
  obtain ⟨p, Hp⟩ : ∃ p, Hid (p = path.length) := ⟨_, Lib.hid rfl⟩
  obtain ⟨r, Hr⟩ : ∃ r, Hid (r = Sgn.verifyB pub m j sig path) := ⟨_, Lib.hid rfl⟩
  have HDi := Lib.hid fun (X : World) => refDig_any m hm X
  have HS1 := Lib.hid h1
  have HS2 := Lib.hid h2
  have HZ1 := Lib.hid hz1
  have HZ2 := Lib.hid hz2
  have HL := Lib.hid h18
  rw [← Hr.out, ← Hp.out]
  rw [← Hp.out] at h8 hj
  obtain ⟨N, HN⟩ : ∃ N, Hid (N = 2 ^ p) := ⟨_, Lib.hid rfl⟩
  have HPw : Hid (∀ X, Calls Tryd.prog 33 #[.int .i64 p] X fun e w' => e = .returned (.int .i64 (N : Int)) ∧ X = w') := Lib.hid fun X => by rw [HN.out]; exact refPower_any p h8 X
  rw [← HN.out] at hj
  have hN2 : N ≤ 256 := by rw [HN.out]; exact Nat.pow_le_pow_right (by decide) h8
  have d1 : decide ((8 : Int) < p) = false := decide_eq_false (by omega)
  have d1n : decide (8 < p) = false := decide_eq_false (by omega)
  have d2 : decide ((j : Int) < 0) = false := decide_eq_false (by omega)
  have d3 : decide ((N : Int) ≤ j) = false := decide_eq_false (by omega)
  have d3n : decide (N ≤ j) = false := decide_eq_false (by omega)
  obtain ⟨W0, HW0⟩ : ∃ x, Hid (x = w.alloc (.cells #[.int .i64 j, .slice so 18 c1, .slice po p c2] 24)) := ⟨_, Lib.hid rfl⟩
  have HB0 : Hid (Below w.heap.size w W0) := Lib.hid (by rw [HW0.out]; exact (Below.refl _ _).alloc (Nat.le_refl _) _)
  have HA : Hid (Whole W0 w.heap.size 24 #[.int .i64 j, .slice so 18 c1, .slice po p c2]) := Lib.hid (by rw [HW0.out]; exact Whole.new _ _ _)
  have e0 : ∀ X : Grown W0, X.w.cell? ⟨w.heap.size, 0, none⟩ = some (.int .i64 j) := fun X => (seal_cells X.below HA.out).1
  have e1 : ∀ X : Grown W0, X.w.cell? ⟨w.heap.size, 1, none⟩ = some (.slice so 18 c1) := fun X => (seal_cells X.below HA.out).2.1
  have e2 : ∀ X : Grown W0, X.w.cell? ⟨w.heap.size, 2, none⟩ = some (.slice po p c2) := fun X => (seal_cells X.below HA.out).2.2
  clear h1 h2 hz1 hz2 h18 hm
  go_enter Tryd.func19, Tryd.ntmps19
  go_wp2_with fail
  rw [← HW0.out]
  refine wp_region_grown (by kernel_rfl) (by kernel_rfl) ?_
  repeat (go_big_quiet_step (exact grown_of_same (HPw.out _)))
  refine wpQuiet_nil ?_
  rintro _ ⟨X, rfl⟩
  have HX0 := Lib.hid X.below
  clear e0 e1 e2 d1 d1n d2 d3 d3n
  generalize X.w = W1 at HX0 ⊢
  go_wp2_with fail
  refine (HDi.out _).mono ?_
  rintro e W2 ⟨gd, cd, rfl, hdg, hb⟩
  have HDg := Lib.hid hdg
  have HB02 := Lib.hid (below_step HX0.out hb)
  have HB2 := Lib.hid (below_step HB0.out HB02.out)
  clear hb hdg
  obtain ⟨B, HBq⟩ : ∃ x, Hid (x = w.heap.size) := ⟨_, Lib.hid rfl⟩
  have HA2 : Hid (Whole W2 B 24 #[.int .i64 j, .slice so 18 c1, .slice po p c2]) := Lib.hid (by rw [HBq.out]; exact (HB02.out.block _ HA.out.lt).trans HA.out)
  rw [← HBq.out]
  go_wp2_with fail
  go_loopw [8, 9] (fun o i wr => ∃ n : Nat, n ≤ 18 ∧ i = .int .i64 n ∧ ∃ eo ec, o = .slice eo n ec ∧ Hid (Below W2.heap.size W2 wr ∧ wr.ownsRow W2.heap.size 9 1 (.slice eo n ec) n (strC (endsTo m sig n))) ∧ Hid (∀ q, (hq : q < sig.length) → q < n → Dig.isB sig[q].data.toList = true)) (fun _ i _ => 18 - (intOf i).toNat)
  case atStart => exact ⟨0, by omega, rfl, none, 0, rfl, Lib.hid ⟨Below.refl _ _, World.ownsRow_nil _ _ _ _⟩, Lib.hid fun q _ h => by omega⟩
  case round =>
    obtain ⟨n, hn, rfl, eo, ec, rfl, HE, HD⟩ := hrel
    obtain ⟨k0, k1, k2⟩ := seal_cells HE.out.1 HA2.out
    have HBw : Hid (Below w.heap.size w wr) := Lib.hid (below_step HB2.out HE.out.1)
    by_cases hlt : n < 18
    · have hlt' : (n : Int) < 18 := by omega
      have hns : n < sig.length := by rw [HL.out]; exact hlt
      obtain ⟨bk, off, rfl, hbk, hc⟩ := strs_at (HS1.out.below HBw.out) hns
      have d1 := hc n hns
      obtain ⟨s, Hs⟩ : ∃ s, Hid (s = sig[n]) := ⟨_, Lib.hid rfl⟩
      rw [← Hs.out] at d1
      have hsz : s.size ≤ 300 := by rw [Hs.out]; exact HZ1.out _ (List.getElem_mem _)
      have HI : Hid (∀ X, Calls Tryd.prog 41 #[.string s] X fun e w' => e = .returned (.bool (Dig.isB s.data.toList)) ∧ X = w') := Lib.hid fun X => refIs_any s (by omega) X
      obtain ⟨b, Hb⟩ : ∃ b, Hid (b = Dig.isB s.data.toList) := ⟨_, Lib.hid rfl⟩
      rw [← Hb.out] at HI
      clear hc
      cases b with
      | false =>
        have HE2 : Hid (r = false) := Lib.hid (by rw [Hr.out]; exact verify_bad (Or.inl (by rw [Hs.out]; exact List.getElem_mem _)) Hb.out.symm)
        go_wp2_with fail
        refine (HI.out _).mono ?_
        rintro e _ ⟨rfl, rfl⟩
        go_wp2_with fail
        go_ret
        exact ⟨ret_bool HE2.out.symm, HBw.out⟩
      | true =>
        obtain ⟨d, Hd⟩ : ∃ x, Hid (x = Sgn.dAt m n) := ⟨_, Lib.hid rfl⟩
        have hd15 : d ≤ 15 := by rw [Hd.out]; exact Sgn.dAt_le _ _
        have d2 : wr.cell? ⟨gd, n, none⟩ = some (.int .i64 (d : Int)) := by
          rw [HE.out.1.cell (p := ⟨gd, n, none⟩) HDg.out.1, HDg.out.2 n hlt, Hd.out]
        have f1 : ∀ X : Grown wr, X.w.cell? ⟨B, 1, none⟩ = some (.slice (some ⟨bk, off, none⟩) 18 c1) := fun X => (X.cell (lt_of_cell k1)).trans k1
        have f2 : ∀ X : Grown wr, X.w.cell? ⟨bk, off + n, none⟩ = some (.string s) := fun X => (X.cell hbk).trans d1
        have f3 : ∀ X : Grown wr, X.w.cell? ⟨gd, n, none⟩ = some (.int .i64 (d : Int)) := fun X => (X.cell (lt_of_cell d2)).trans d2
        obtain ⟨cv, Hcv⟩ : ∃ y, Hid (y = Sgn.chainV (15 - d) s) := ⟨_, Lib.hid rfl⟩
        have HCh : Hid (∀ X, Calls Tryd.prog 35 #[.string s, .int .i64 (15 - (d : Int))] X fun e w' => e = .returned (.string cv) ∧ X = w') := Lib.hid fun X => by
          have := refChain_any s (by omega) (15 - d) (by omega) X
          rw [Hcv.out]
          rwa [show ((15 - d : Nat) : Int) = 15 - (d : Int) by omega] at this
        go_wp2_with fail
        refine (HI.out _).mono ?_
        rintro e _ ⟨rfl, rfl⟩
        clear d1 d2
        go_wp2_with fail
        refine (wpIn_wide (n := 1)).1 ?_
        refine wpIn_region_calm [0, 1, 2, 3, 4, 5, 6, 7, 8, 9, 10] [11, 12, 13, 14] [13, 14] (fun w' => ∃ X : Grown wr, w' = X.w) (by kernel_rfl) (by kernel_rfl) rfl (by kernel_rfl) (by kernel_rfl) ⟨⟨wr.drew, (Below.refl _ _).drew⟩, rfl⟩ ?_
        simp only [List.filterMap_cons, List.filterMap_nil, List.getElem?_toArray, List.getElem?_cons_zero, List.getElem?_cons_succ]
        refine (show wpQuiet _ _ _ _ (_ :: _ :: _ :: _ :: _ :: _ :: _ :: _ :: _ :: _ :: _ :: []) _ from ?_)
        repeat (go_big_quiet_step (fail))
        refine wpQuiet_nil ?_
        refine wpTail_cons rfl rfl fun K hK => ?_
        go_simp
        refine ⟨trivial, ?_⟩
        refine (callsIn_wide.2 (HCh.out wr.drew)).mono ?_
        rintro e _ ⟨rfl, rfl⟩
        refine hK _ _ (fun _ => ⟨⟨wr.drew, (Below.refl _ _).drew⟩, rfl⟩) ?_
        clear hK K
        refine wpTail_cons rfl rfl fun K hK => ?_
        go_simp
        refine hK _ _ (fun _ => ⟨⟨wr.drew.alloc (.cells #[.string cv] 9), (Below.refl _ _).drew.alloc (Nat.le_refl _) _⟩, rfl⟩) ?_
        clear hK K
        have HR1 : Hid (wr.drew.ownsRow W2.heap.size 9 1 (.slice eo n ec) n (strC (endsTo m sig n))) := Lib.hid HE.out.2
        have HNw := Lib.hid (newCell wr.drew cv)
        refine wpTail_cons rfl rfl fun K hK => ?_
        refine wpIn_append_lies _ (.tmp 51) (.tmp 63) 22 rfl W2.heap.size 9 i1 (.string ⟨#[]⟩) 1 16 Tryd.underlying22 hi1 hy0 hy1 hy2 rfl (by decide) (.slice eo n ec) n (strC (endsTo m sig n)) (by simp [Act.eval]) (HR1.out.alloc _) ⟨wr.drew.heap.size, 0, none⟩ 1 1 [.string cv] (by simp [Act.eval]) rfl HNw.out (by simp [Value.oneCell']) (by decide) (by unfold maxLen; omega) (by omega) (by show W2.heap.size ≤ (wr.alloc _).heap.size; rw [size_alloc]; have := HE.out.1.size; omega) ?_
        intro g' cap' w10 hown hgrow _ _
        refine hK _ _ (fun h => absurd h (by decide)) ?_
        clear hK K f1 f2 f3
        have HO := Lib.hid hown
        have HG := Lib.hid hgrow
        clear hown hgrow
        refine wpTail_cons rfl rfl fun K hK => ?_
        go_simp
        refine hK _ _ (fun h => absurd h (by decide)) ?_
        clear hK K
        refine wpTail_calm ?_
        go_wp2_with fail
        go_roundw
        case rel =>
          refine ⟨n + 1, by omega, by go_num, some ⟨g', 0, none⟩, cap', rfl, Lib.hid ⟨?_, ?_⟩, Lib.hid fun q hq h => ?_⟩
          · exact ((HE.out.1.drew.alloc HE.out.1.size _).grown HG.out (by show _ ≤ (wr.alloc _).heap.size; rw [size_alloc]; have := HE.out.1.size; omega) (fun j e => (HR1.out.lt j e).1))
          · have e : strC (endsTo m sig (n + 1)) = strC (endsTo m sig n) ++ [.string cv] := by rw [endsTo_succ, strC_snoc, Hcv.out, Hd.out, Hs.out, Sgn.at_get hns]
            rw [e]
            exact HO.out
          · by_cases e : q = n
            · subst e; rw [← Hs.out, ← Hb.out]
            · exact HD.out q hq (by omega)
        case measure => simp [intOf]; omega
    · obtain rfl : n = 18 := by omega
      go_wp2_with fail
      try simp only [show ((18 : Nat) : Int) = 18 from rfl]
      go_loop [10] (fun i => ∃ k : Nat, k ≤ p ∧ i = .int .i64 k ∧ Hid (∀ q, (hq : q < path.length) → q < k → Dig.isB path[q].data.toList = true)) (fun i => p - (intOf i).toNat)
      case atStart => exact ⟨0, by omega, rfl, Lib.hid fun q _ h => by omega⟩
      case round =>
        obtain ⟨k, hk, rfl, HQ⟩ := hrel
        by_cases hlt : k < p
        · have hlt' : (k : Int) < p := by omega
          have hks : k < path.length := by rw [← Hp.out]; exact hlt
          obtain ⟨bk, off, rfl, hbk, hc⟩ := strs_at (HS2.out.below HBw.out) hks
          have d1 := hc k hks
          obtain ⟨s, Hs⟩ : ∃ s, Hid (s = path[k]) := ⟨_, Lib.hid rfl⟩
          rw [← Hs.out] at d1
          have hsz : s.size ≤ 300 := by rw [Hs.out]; exact HZ2.out _ (List.getElem_mem _)
          have HI : Hid (∀ X, Calls Tryd.prog 41 #[.string s] X fun e w' => e = .returned (.bool (Dig.isB s.data.toList)) ∧ X = w') := Lib.hid fun X => refIs_any s (by omega) X
          obtain ⟨b, Hb⟩ : ∃ b, Hid (b = Dig.isB s.data.toList) := ⟨_, Lib.hid rfl⟩
          rw [← Hb.out] at HI
          clear hc
          cases b with
          | false =>
            have HE2 : Hid (r = false) := Lib.hid (by rw [Hr.out]; exact verify_bad (Or.inr (by rw [Hs.out]; exact List.getElem_mem _)) Hb.out.symm)
            go_wp2_with fail
            refine (HI.out _).mono ?_
            rintro e _ ⟨rfl, rfl⟩
            go_wp2_with fail
            go_ret
            exact ⟨ret_bool HE2.out.symm, HBw.out⟩
          | true =>
            go_wp2_with fail
            refine (HI.out _).mono ?_
            rintro e _ ⟨rfl, rfl⟩
            go_wp2
            go_round
            case rel => exact ⟨k + 1, by omega, by go_num, Lib.hid fun q h1 h2 => by
              by_cases e : q = k
              · subst e; rw [← Hs.out, ← Hb.out]
              · exact HQ.out q h1 (by omega)⟩
            case measure => simp [intOf]; omega
        · obtain rfl : p = k := by omega
          have hsz : ∀ s ∈ endsTo m sig 18, s.size ≤ 300 := fun s hs => by
            obtain ⟨q, hq, rfl⟩ := List.mem_map.1 hs
            have hq' : q < sig.length := by rw [HL.out]; exact List.mem_range.1 hq
            rw [chain15_size _ _ (by rw [Sgn.at_get hq']; exact (Sgn.isB_parts (HD.out q hq' (by have := List.mem_range.1 hq; omega))).1)]
            decide
          have hL := refList_any eo (endsTo m sig 18) ec wr (strs_of_row HE.out.2 (by simp [endsTo])) (fewE hsz (by simp [endsTo]))
          rw [show (endsTo m sig 18).length = 18 by simp [endsTo]] at hL
          obtain ⟨kv, Hkv⟩ : ∃ x, Hid (x = Sgn.lst (Sgn.endsOf m sig)) := ⟨_, Lib.hid rfl⟩
          have ek : digestOf (joinText (bytesOf (endsTo m sig 18))) = kv := by rw [Hkv.out]; rfl
          rw [ek] at hL
          have HKey := Lib.hid hL
          have HF : Hid (r = decide (Sgn.rootOf m j sig path = pub)) := Lib.hid (by
            have a1 : (sig.all fun s => Dig.isB s.data.toList) = true := List.all_eq_true.2 fun s hs => by
              obtain ⟨q, hq, rfl⟩ := List.getElem_of_mem hs
              exact HD.out q hq (by have := HL.out; omega)
            have a2 : (path.all fun s => Dig.isB s.data.toList) = true := List.all_eq_true.2 fun s hs => by
              obtain ⟨q, hq, rfl⟩ := List.getElem_of_mem hs
              exact HQ.out q hq (by rw [Hp.out]; exact hq)
            have a3 : Sgn.formB (j : Int) sig path = true := by
              unfold Sgn.formB
              rw [a1, a2, decide_eq_true HL.out, decide_eq_true (show path.length ≤ 8 by rw [← Hp.out]; exact h8), decide_eq_true (show (0 : Int) ≤ j by omega), decide_eq_true (show (j : Int) < ((2 ^ path.length : Nat) : Int) by rw [← Hp.out, ← HN.out]; omega)]
              rfl
            rw [Hr.out]
            unfold Sgn.verifyB
            rw [a3, Bool.true_and, Int.toNat_natCast])
          clear hsz hL ek
          go_wp2_with fail
          refine HKey.out.mono ?_
          rintro e w3 ⟨rfl, hb⟩
          have HB23 : Hid (Below W2.heap.size W2 w3) := Lib.hid (below_step HE.out.1 hb)
          have HBw3 : Hid (Below w.heap.size w w3) := Lib.hid (below_step HB2.out HB23.out)
          clear hb k0 k1 k2
          obtain ⟨k0, k1, k2⟩ := seal_cells HB23.out HA2.out
          go_wp2_with fail
          obtain ⟨wo, rfl⟩ : ∃ x, x = wr := ⟨_, rfl⟩
          go_loopw [11, 12, 13] (fun a i k wq => ∃ q : Nat, q ≤ p ∧ k = .int .i64 q ∧ ∃ z : Nat, i = .int .i64 z ∧ z ≤ 256 ∧ Hid (z = j / 2 ^ q) ∧ ∃ x, a = .string x ∧ Hid (x = Sgn.climbUp j path kv q ∧ x.size = 16) ∧ Hid (Below w3.heap.size w3 wq)) (fun _ _ k _ => p - (intOf k).toNat)
          case atStart => exact ⟨0, by omega, rfl, j, rfl, by omega, Lib.hid (by simp), kv, rfl, Lib.hid ⟨rfl, by rw [Hkv.out]; exact Sgn.lst_size _⟩, Lib.hid (Below.refl _ _)⟩
          case round =>
            obtain ⟨q, hq, rfl, z, rfl, hz, HZ, x, rfl, HX, HB⟩ := hrel
            obtain ⟨k0, k1, k2⟩ := seal_cells (below_step HB23.out HB.out) HA2.out
            have HBz : Hid (Below w.heap.size w wr) := Lib.hid (below_step HBw3.out HB.out)
            by_cases hlt : q < p
            · have hlt' : (q : Int) < p := by omega
              have hks : q < path.length := by rw [← Hp.out]; exact hlt
              obtain ⟨bk, off, rfl, hbk, hc⟩ := strs_at (HS2.out.below HBz.out) hks
              have d1 := hc q hks
              obtain ⟨ot, Hot⟩ : ∃ s, Hid (s = path[q]) := ⟨_, Lib.hid rfl⟩
              rw [← Hot.out] at d1
              have hso : ot.size ≤ 300 := by rw [Hot.out]; exact HZ2.out _ (List.getElem_mem _)
              have hxs : x.size ≤ 300 := by rw [HX.out.2]; decide
              have HZ2 : Hid (z / 2 = j / 2 ^ (q + 1)) := Lib.hid (by rw [HZ.out, Nat.pow_succ, Nat.div_div_eq_div_mul])
              obtain ⟨nv, Hnv⟩ : ∃ y, Hid (y = Sgn.climbUp j path kv (q + 1)) := ⟨_, Lib.hid rfl⟩
              have hnv : nv = (if z % 2 = 1 then Sgn.nodeV ot x else Sgn.nodeV x ot) := by
                rw [Hnv.out, HZ.out, HX.out.1, Hot.out, ← Sgn.at_get hks]
                rfl
              have HNs : Hid (nv.size = 16) := Lib.hid (by rw [hnv]; split <;> exact Sgn.lst_size _)
              clear hc
              by_cases hb : z % 2 = 1
              · have HPr : Hid (∀ X, Calls Tryd.prog 43 #[.string x, .string ot, .bool true] X fun e w' => e = .returned (.string nv) ∧ Below X.heap.size X w') := Lib.hid fun X => by
                  have := refParent_any x ot hxs hso true X
                  rw [if_pos rfl] at this
                  rw [hnv, if_pos hb]
                  exact this
                have b1 : (((z : Int) % 2) == 1) = true := by simp; omega
                have b2 : (z : Int) % 2 = 1 := by omega
                clear hnv hb hxs
                go_wp2_with fail
                refine (HPr.out _).mono ?_
                rintro e w5 ⟨rfl, hb⟩
                have HB5 := Lib.hid (below_step HB.out hb)
                clear hb
                go_wp2
                go_roundw
                case rel => exact ⟨q + 1, by omega, by go_num, z / 2, by go_num, by omega, HZ2, nv, rfl, Lib.hid ⟨Hnv.out, HNs.out⟩, HB5⟩
                case measure => simp [intOf]; omega
              · have HPr : Hid (∀ X, Calls Tryd.prog 43 #[.string x, .string ot, .bool false] X fun e w' => e = .returned (.string nv) ∧ Below X.heap.size X w') := Lib.hid fun X => by
                  have := refParent_any x ot hxs hso false X
                  rw [if_neg (by decide)] at this
                  rw [hnv, if_neg hb]
                  exact this
                have b1 : (((z : Int) % 2) == 1) = false := by simp; omega
                have b2 : (z : Int) % 2 = 0 := by omega
                clear hnv hb hxs
                go_wp2_with fail
                refine (HPr.out _).mono ?_
                rintro e w5 ⟨rfl, hb⟩
                have HB5 := Lib.hid (below_step HB.out hb)
                clear hb
                go_wp2
                go_roundw
                case rel => exact ⟨q + 1, by omega, by go_num, z / 2, by go_num, by omega, HZ2, nv, rfl, Lib.hid ⟨Hnv.out, HNs.out⟩, HB5⟩
                case measure => simp [intOf]; omega
            · obtain rfl : p = q := by omega
              have HFx : Hid (r = decide (x = pub)) := Lib.hid (by
                rw [HF.out, HX.out.1]
                unfold Sgn.rootOf
                rw [← Hp.out, ← Hkv.out])
              have hbq : (x.toList == pub.toList) = decide (x = pub) := by
                by_cases h : x = pub
                · rw [decide_eq_true h, h]; exact beq_self_eq_true _
                · rw [decide_eq_false h]; exact (Lib.bytes_beq_false_iff _ _).2 h
              go_wp2_with fail
              go_ret
              exact ⟨ret_bool (by rw [HFx.out] <;> first | exact hbq | rfl), HBz.out⟩

theorem refVerify_any (pub m : ByteArray) (hm : m.size ≤ 140737488351232) (idx : Int) (so po : Option Addr) (c1 c2 : Nat) (sig path : List ByteArray)
    (hz1 : ∀ s ∈ sig, s.size ≤ 300) (hz2 : ∀ s ∈ path, s.size ≤ 300) (w : World) (h1 : IsStrs w so sig) (h2 : IsStrs w po path) :
    Calls Tryd.prog 19 #[.string pub, .string m, .agg #[.int .i64 idx, .slice so sig.length c1, .slice po path.length c2]] w fun e w' => e = .returned (.bool (Sgn.verifyB pub m idx sig path)) ∧ Below w.heap.size w w' := by
  by_cases h : sig.length = 18 ∧ path.length ≤ 8 ∧ 0 ≤ idx ∧ idx < ((2 ^ path.length : Nat) : Int)
  · obtain ⟨g1, g2, g3, g4⟩ := h
    obtain ⟨j, rfl⟩ : ∃ j : Nat, idx = j := ⟨idx.toNat, by omega⟩
    rw [g1]
    exact refVerify_on pub m hm j so po c1 c2 sig path g1 g2 (by omega) hz1 hz2 w h1 h2
  · rw [verify_no h]
    exact refVerify_off pub m idx so po c1 c2 sig.length path.length h w

end Go.Proofs.YtfnbdjjobndgfaaDoor

/- The walk of SignMatchesReference. -/
namespace Go.Proofs.YtfnbdjjobndgfaaDoor
open Go.RowKit

theorem short3 (a b c : ByteArray) (ha : a.size ≤ 140737488351232) (hb : b.size ≤ 140737488351232) (hc : c.size ≤ 140737488351232) (X : World) :
    Calls Tryd.prog 11 #[.slice (some ⟨X.heap.size, 0, none⟩) 3 3] (X.alloc (.cells #[.string a, .string b, .string c] 9)) fun e w' => e = .returned (.bool (decide (a.size ≤ 300) && (decide (b.size ≤ 300) && decide (c.size ≤ 300)))) ∧ X.alloc (.cells #[.string a, .string b, .string c] 9) = w' := by
  have := short_any (some ⟨X.heap.size, 0, none⟩) [a, b, c] 3 (by simp) (fun s hs => by
    simp only [List.mem_cons, List.not_mem_nil, or_false] at hs
    rcases hs with rfl | rfl | rfl <;> omega) (X.alloc (.cells #[.string a, .string b, .string c] 9)) (strs3 (by rw [cell_alloc, if_pos rfl] <;> rfl) (by rw [cell_alloc, if_pos rfl] <;> rfl) (by rw [cell_alloc, if_pos rfl] <;> rfl))
  simpa using this
/-- What both Signs answer. -/
def SgPost (i0 e0 : Int) (sg pt : List ByteArray) (w : World) (e : Ending) (w' : World) : Prop :=
  (∃ so po c1 c2, e = .returned (.tuple #[.agg #[.int .i64 i0, .slice so sg.length c1, .slice po pt.length c2], .int .i64 e0]) ∧ IsStrs w' so sg ∧ IsStrs w' po pt) ∧ Below w.heap.size w w'
theorem pub_both (sec : ByteArray) (hs : sec.size ≤ 300) (h : Int) : ∃ pv pe, (∀ X, Tab X → Calls Tryd.prog 13 #[.string sec, .int .i64 h] X fun e w' => e = .returned (.tuple #[.string pv, .int .i64 pe]) ∧ Below X.heap.size X w') ∧
    ∀ X, Calls Tryd.prog 14 #[.string sec, .int .i64 h] X fun e w' => e = .returned (.tuple #[.string pv, .int .i64 pe]) ∧ Below X.heap.size X w' := by
  by_cases hh : (decide (0 ≤ h) && decide (h ≤ 8)) = false
  · exact ⟨_, _, fun X _ => public_bad sec h hh X, fun X => refPublic_bad sec h hh X⟩
  · rw [Bool.not_eq_false, Bool.and_eq_true] at hh
    obtain ⟨k, rfl⟩ : ∃ k : Nat, h = k := ⟨h.toNat, by have := of_decide_eq_true hh.1; omega⟩
    have hk : k ≤ 8 := by have := of_decide_eq_true hh.2; omega
    exact ⟨_, _, fun X hX => public_good sec hs k hk X hX, fun X => refPublic_good sec hs k hk X⟩
theorem noSeal_post {w : World} {e : Ending} {w' : World} (h : e = .returned noSeal ∧ Below w.heap.size w w') : SgPost 0 1 [] [] w e w' := ⟨⟨none, none, 0, 0, h.1, Or.inl rfl, Or.inl rfl⟩, h.2⟩
theorem sign_both (sec msg : ByteArray) (hs : sec.size ≤ 300) (hm : msg.size ≤ 140737488351232) (h idx : Int) : ∃ i0 e0 sg pt, sg.length ≤ 1000 ∧ pt.length ≤ 1000 ∧ (∀ X, Tab X → Calls Tryd.prog 15 #[.string sec, .int .i64 h, .int .i64 idx, .string msg] X (SgPost i0 e0 sg pt X)) ∧
    ∀ X, Calls Tryd.prog 16 #[.string sec, .int .i64 h, .int .i64 idx, .string msg] X (SgPost i0 e0 sg pt X) := by
  by_cases hb : (decide (0 ≤ h) && decide (h ≤ 8)) = false ∨ idx < 0 ∨ ∃ k : Nat, h = k ∧ k ≤ 8 ∧ ((2 ^ k : Nat) : Int) ≤ idx
  · exact ⟨0, 1, [], [], by simp, by simp, fun X _ => (sign_bad sec msg h idx hb X).mono fun _ _ hh => noSeal_post hh, fun X => (refSign_bad sec msg h idx hb X).mono fun _ _ hh => noSeal_post hh⟩
  · have h1 : ¬ (decide (0 ≤ h) && decide (h ≤ 8)) = false := fun hh => hb (Or.inl hh)
    rw [Bool.not_eq_false, Bool.and_eq_true] at h1
    obtain ⟨k, rfl⟩ : ∃ k : Nat, h = k := ⟨h.toNat, by have := of_decide_eq_true h1.1; omega⟩
    have hk : k ≤ 8 := by have := of_decide_eq_true h1.2; omega
    have h2 : ¬ idx < 0 := fun hh => hb (Or.inr (Or.inl hh))
    obtain ⟨j, rfl⟩ : ∃ j : Nat, idx = j := ⟨idx.toNat, by omega⟩
    have hj : j < 2 ^ k := by
      rcases Nat.lt_or_ge j (2 ^ k) with hh | hh
      · exact hh
      · exact absurd (Or.inr (Or.inr ⟨k, rfl, hk, by omega⟩)) hb
    refine ⟨j, 0, Sgn.sigV sec j msg, Sgn.pathV sec k j, by rw [Sgn.sig_len]; decide, by rw [Sgn.path_len]; omega, fun X hX => ?_, fun X => ?_⟩
    · refine (callsIn_wide.1 (sign_good sec msg hs hm k j hk hj X hX)).mono ?_
      rintro e w' ⟨⟨so, po, c1, c2, rfl, g1, g2, _, _⟩, hb⟩
      exact ⟨⟨so, po, c1, c2, by rw [Sgn.sig_len, Sgn.path_len], g1, g2⟩, hb⟩
    · refine (refSign_good sec msg hs hm k j hk hj X).mono ?_
      rintro e w' ⟨⟨so, po, c1, c2, rfl, g1, g2⟩, hb⟩
      exact ⟨⟨so, po, c1, c2, by rw [Sgn.sig_len, Sgn.path_len], g1, g2⟩, hb⟩

set_option maxRecDepth 100000 in
set_option maxHeartbeats 8000000 in
theorem matches_any (sec : ByteArray) (hs : sec.size ≤ 140737488351232) (h idx : Int) (msg : ByteArray) (hm : msg.size ≤ 140737488351232) (pub : ByteArray) (hp : pub.size ≤ 140737488351232) (ix : Int) (so po : Option Addr) (c1 c2 : Nat) (sig path : List ByteArray) (W : World) (hl : SealFine W ix so po c1 c2 sig path) (ht : Tab W) :
    Calls Tryd.prog 3 #[.string sec, .int .i64 h, .int .i64 idx, .string msg, .string pub, .agg #[.int .i64 ix, .slice so sig.length c1, .slice po path.length c2]] W fun e W' => e = .returned (.bool true) ∧ Below W.heap.size W W' := by
  have HT := Lib.hid ht
  have HH : Hid (∀ X, Below W.heap.size W X → Calls Tryd.prog 10 #[] X fun e w' => e = .returned (.bool true) ∧ Below X.heap.size X w') := Lib.hid fun X hX => head_any X (ht.below hX)
  have HSh := Lib.hid (short3 sec msg pub hs hm hp)
  obtain ⟨b1, Hb1⟩ : ∃ b, Hid (b = (decide (sec.size ≤ 300) && (decide (msg.size ≤ 300) && decide (pub.size ≤ 300)))) := ⟨_, Lib.hid rfl⟩
  rw [← Hb1.out] at HSh
  have HFw : Hid (∀ X, Below W.heap.size W X → Calls Tryd.prog 12 #[.agg #[.int .i64 ix, .slice so sig.length c1, .slice po path.length c2]] X (FewPost X sig path)) := Lib.hid fun X hX =>
    few_any ix so po c1 c2 sig path hl.z1 hl.z2 X (hl.is1.below hX) (hl.is2.below hX)
  have HVr : Hid (∀ p, FewS sig path → ∀ X, Below W.heap.size W X → Calls Tryd.prog 18 #[.string p, .string msg, .agg #[.int .i64 ix, .slice so sig.length c1, .slice po path.length c2]] X fun e w' => e = .returned (.bool (Sgn.verifyB p msg ix sig path)) ∧ Below X.heap.size X w') := Lib.hid fun p hf X hX =>
    verify_any p msg hm ix so po c1 c2 sig path (by have := hf.1; omega) (by have := hf.2.1; omega) (fun s hs => by have := hf.2.2.1 s hs; omega) (fun s hs => by have := hf.2.2.2 s hs; omega) X (ht.below hX) (hl.is1.below hX) (hl.is2.below hX)
  have HRr : Hid (∀ p, FewS sig path → ∀ X, Below W.heap.size W X → Calls Tryd.prog 19 #[.string p, .string msg, .agg #[.int .i64 ix, .slice so sig.length c1, .slice po path.length c2]] X fun e w' => e = .returned (.bool (Sgn.verifyB p msg ix sig path)) ∧ Below X.heap.size X w') := Lib.hid fun p hf X hX =>
    refVerify_any p msg hm ix so po c1 c2 sig path (fun s hs => by have := hf.2.2.1 s hs; omega) (fun s hs => by have := hf.2.2.2 s hs; omega) X (hl.is1.below hX) (hl.is2.below hX)
  have HSB : Hid (sec.size ≤ 300 → ∃ i0 e0 sg pt, sg.length ≤ 1000 ∧ pt.length ≤ 1000 ∧ (∀ X, Tab X → Calls Tryd.prog 15 #[.string sec, .int .i64 h, .int .i64 idx, .string msg] X (SgPost i0 e0 sg pt X)) ∧
    ∀ X, Calls Tryd.prog 16 #[.string sec, .int .i64 h, .int .i64 idx, .string msg] X (SgPost i0 e0 sg pt X)) := Lib.hid fun h3 => sign_both sec msg h3 hm h idx
  obtain ⟨n, Hn⟩ : ∃ n, Hid (n = sig.length) := ⟨_, Lib.hid rfl⟩
  obtain ⟨p, Hp⟩ : ∃ n, Hid (n = path.length) := ⟨_, Lib.hid rfl⟩
  rw [← Hn.out, ← Hp.out] at HFw HVr HRr ⊢
  clear hl ht hp hm hs
  go_enter Tryd.func3, Tryd.ntmps3
  go_wp2_with fail
  have hB0 : Below W.heap.size W (W.alloc (.cells #[.int .i64 ix, .slice so n c1, .slice po p c2] 24)) := (Below.refl _ _).alloc (Nat.le_refl _) _
  refine (HH.out _ hB0).mono ?_
  rintro e w1 ⟨rfl, hb⟩
  have HB1 := Lib.hid (below_step hB0 hb)
  have HA := Lib.hid (show Whole w1 W.heap.size 24 #[.int .i64 ix, .slice so n c1, .slice po p c2] from (hb.block _ (Whole.new _ _ _).lt).trans (Whole.new _ _ _))
  clear hb hB0
  go_wp2_with fail
  refine (HSh.out w1).mono ?_
  rintro e _ ⟨rfl, rfl⟩
  obtain ⟨W2, HW2⟩ : ∃ x, Hid (x = w1.alloc (.cells #[.string sec, .string msg, .string pub] 9)) := ⟨_, Lib.hid rfl⟩
  have HB12 : Hid (Below w1.heap.size w1 W2) := Lib.hid (by rw [HW2.out]; exact (Below.refl _ _).alloc (Nat.le_refl _) _)
  have HB2 : Hid (Below W.heap.size W W2) := Lib.hid (below_step HB1.out HB12.out)
  rw [← HW2.out]
  cases b1 with
  | false =>
    go_wp2_with fail
    go_ret
    exact ⟨rfl, HB2.out⟩
  | true =>
    have hs3 : sec.size ≤ 300 := by
      have h := Hb1.out.symm
      rw [Bool.and_eq_true] at h
      exact of_decide_eq_true h.1
    obtain ⟨pv, pe, hp1, hp2⟩ := pub_both sec hs3 h
    obtain ⟨i0, e0, sg, pt, hl1, hl2, hg1, hg2⟩ := HSB.out hs3
    have HP1 := Lib.hid hp1
    have HP2 := Lib.hid hp2
    have HG1 := Lib.hid hg1
    have HG2 := Lib.hid hg2
    have HSame : Hid (∀ X a1 b1 a2 b2 c1 d1 c2 d2, IsStrs X a1 sg → IsStrs X b1 pt → IsStrs X a2 sg → IsStrs X b2 pt → Calls Tryd.prog 17 #[.agg #[.int .i64 i0, .slice a1 sg.length c1, .slice b1 pt.length d1], .agg #[.int .i64 i0, .slice a2 sg.length c2, .slice b2 pt.length d2]] X
        fun e w' => e = .returned (.bool true) ∧ Below X.heap.size X w') := Lib.hid fun X a1 b1 a2 b2 c1 d1 c2 d2 g1 g2 g3 g4 => by
      have := same_any i0 i0 a1 b1 a2 b2 c1 d1 c2 d2 sg pt sg pt ⟨hl1, hl2, hl1, hl2⟩ X g1 g2 g3 g4
      rw [show sameS i0 i0 sg pt sg pt = true by unfold sameS; rw [sameB_true rfl, sameB_true rfl]; simp] at this
      exact this
    clear hp1 hp2 hg1 hg2 hl1 hl2 Hb1 HSB hs3
    obtain ⟨k0, k1, k2⟩ := seal_cells HB12.out HA.out
    go_wp2_with fail
    refine (HFw.out _ HB2.out).mono ?_
    rintro e w3 ⟨b2, rfl, hb2, hb⟩
    have HF := Lib.hid hb2
    have HB3 := Lib.hid (below_step HB2.out hb)
    have HB13 := Lib.hid (below_step HB12.out hb)
    clear hb hb2 k0 k1 k2
    cases b2 with
    | false =>
      go_wp2_with fail
      go_ret
      exact ⟨rfl, HB3.out⟩
    | true =>
      by_cases hmid : 3 < h ∧ h ≤ 8
      · have r1 : decide (3 < h) = true := decide_eq_true hmid.1
        have r2 : decide (h ≤ 8) = true := decide_eq_true hmid.2
        clear hmid
        go_wp2_with fail
        go_ret
        exact ⟨rfl, HB3.out⟩
      · have hcs : decide (3 < h) = false ∨ (decide (3 < h) = true ∧ decide (h ≤ 8) = false) := by
          by_cases q : 3 < h
          · exact Or.inr ⟨decide_eq_true q, decide_eq_false fun q2 => hmid ⟨q, q2⟩⟩
          · exact Or.inl (decide_eq_false q)
        clear hmid
        have HFw' := HF.out rfl
        have HF' := Lib.hid HFw'
        clear HFw'
        obtain ⟨v1, Hv1⟩ : ∃ v, Hid (v = Sgn.verifyB pub msg ix sig path) := ⟨_, Lib.hid rfl⟩
        obtain ⟨v2, Hv2⟩ : ∃ v, Hid (v = Sgn.verifyB pv msg ix sig path) := ⟨_, Lib.hid rfl⟩
        rcases hcs with r1 | ⟨r1, r2⟩
        all_goals
          go_wp2_with fail
          refine (HP1.out _ (HT.out.below HB3.out)).mono ?_
          rintro e w4 ⟨rfl, hb⟩
          have HB4 := Lib.hid (below_step HB3.out hb)
          have HB14 := Lib.hid (below_step HB13.out hb)
          clear hb
          go_wp2_with fail
          refine (HP2.out _).mono ?_
          rintro e w5 ⟨rfl, hb⟩
          have HB5 := Lib.hid (below_step HB4.out hb)
          have HB15 := Lib.hid (below_step HB14.out hb)
          clear hb
          go_wp2_with fail
          refine (HG1.out _ (HT.out.below HB5.out)).mono ?_
          rintro e w6 ⟨⟨a1, d1, x1, y1, rfl, g1, g2⟩, hb⟩
          have HB6 := Lib.hid (below_step HB5.out hb)
          have HB16 := Lib.hid (below_step HB15.out hb)
          have HX1 := Lib.hid (And.intro g1 g2)
          clear hb g1 g2
          go_wp2_with fail
          obtain ⟨m1, Hm1⟩ : ∃ n, Hid (n = sg.length) := ⟨_, Lib.hid rfl⟩
          obtain ⟨m2, Hm2⟩ : ∃ n, Hid (n = pt.length) := ⟨_, Lib.hid rfl⟩
          rw [← Hm1.out, ← Hm2.out]
          have HSame2 := HSame
          rw [← Hm1.out, ← Hm2.out] at HSame2
          obtain ⟨W7, HW7⟩ : ∃ x, Hid (x = w6.alloc (.cells #[.int .i64 i0, .slice a1 m1 x1, .slice d1 m2 y1] 24)) := ⟨_, Lib.hid rfl⟩
          have HB67 : Hid (Below w6.heap.size w6 W7) := Lib.hid (by rw [HW7.out]; exact (Below.refl _ _).alloc (Nat.le_refl _) _)
          have HA7 := Lib.hid (show Whole W7 w6.heap.size 24 #[.int .i64 i0, .slice a1 m1 x1, .slice d1 m2 y1] by rw [HW7.out]; exact Whole.new _ _ _)
          rw [← HW7.out]
          refine (HG2.out _).mono ?_
          rintro e w8 ⟨⟨a2, d2, x2, y2, rfl, g1, g2⟩, hb⟩
          have HB68 := Lib.hid (below_step HB67.out hb)
          have HB78 := Lib.hid hb
          have HX2 := Lib.hid (And.intro g1 g2)
          have v8 : Whole w8 w6.heap.size 24 #[.int .i64 i0, .slice a1 m1 x1, .slice d1 m2 y1] := (hb.block _ HA7.out.lt).trans HA7.out
          obtain ⟨A1, HAq1⟩ : ∃ x, Hid (x = w6.heap.size) := ⟨_, Lib.hid rfl⟩
          rw [← HAq1.out] at v8 ⊢
          rw [← Hm1.out, ← Hm2.out]
          have n3 : A1 < w8.heap.size := v8.lt
          have n1 : ¬ A1 = w8.heap.size := by omega
          have k0 := v8.cell 0
          have k1 := v8.cell 1
          have k2 := v8.cell 2
          simp only [List.getElem?_toArray, List.getElem?_cons_zero, List.getElem?_cons_succ] at k0 k1 k2
          clear hb g1 g2 v8
          go_wp2_with fail
          obtain ⟨W9, HW9⟩ : ∃ x, Hid (x = w8.alloc (.cells #[.int .i64 i0, .slice a2 m1 x2, .slice d2 m2 y2] 24)) := ⟨_, Lib.hid rfl⟩
          have HB89 : Hid (Below w8.heap.size w8 W9) := Lib.hid (by rw [HW9.out]; exact (Below.refl _ _).alloc (Nat.le_refl _) _)
          have HB69 := Lib.hid (below_step HB68.out HB89.out)
          rw [← HW9.out]
          refine (HSame2.out W9 a1 d1 a2 d2 x1 y1 x2 y2 (HX1.out.1.below HB69.out) (HX1.out.2.below HB69.out) (HX2.out.1.below HB89.out) (HX2.out.2.below HB89.out)).mono ?_
          rintro e w10 ⟨rfl, hb⟩
          have HB10 := Lib.hid (below_step (below_step HB6.out HB69.out) hb)
          have HB110 := Lib.hid (below_step (below_step HB16.out HB69.out) hb)
          clear hb k0 k1 k2 n1 n3
          have e0 : ∀ X : Grown w10, X.w.cell? ⟨W.heap.size, 0, none⟩ = some (.int .i64 ix) := fun X => (seal_cells (below_step HB110.out X.below) HA.out).1
          have e1 : ∀ X : Grown w10, X.w.cell? ⟨W.heap.size, 1, none⟩ = some (.slice so n c1) := fun X => (seal_cells (below_step HB110.out X.below) HA.out).2.1
          have e2 : ∀ X : Grown w10, X.w.cell? ⟨W.heap.size, 2, none⟩ = some (.slice po p c2) := fun X => (seal_cells (below_step HB110.out X.below) HA.out).2.2
          have HV1 : Hid (∀ X : Grown w10, Calls Tryd.prog 18 #[.string pub, .string msg, .agg #[.int .i64 ix, .slice so n c1, .slice po p c2]] X.w fun e w' => e = .returned (.bool v1) ∧ Below X.w.heap.size X.w w') := Lib.hid fun X => by
            rw [Hv1.out]; exact HVr.out pub HF'.out X.w (below_step HB10.out X.below)
          have HV2 : Hid (∀ X : Grown w10, Calls Tryd.prog 18 #[.string pv, .string msg, .agg #[.int .i64 ix, .slice so n c1, .slice po p c2]] X.w fun e w' => e = .returned (.bool v2) ∧ Below X.w.heap.size X.w w') := Lib.hid fun X => by
            rw [Hv2.out]; exact HVr.out pv HF'.out X.w (below_step HB10.out X.below)
          have HR1 : Hid (∀ X : Grown w10, Calls Tryd.prog 19 #[.string pub, .string msg, .agg #[.int .i64 ix, .slice so n c1, .slice po p c2]] X.w fun e w' => e = .returned (.bool v1) ∧ Below X.w.heap.size X.w w') := Lib.hid fun X => by
            rw [Hv1.out]; exact HRr.out pub HF'.out X.w (below_step HB10.out X.below)
          have HR2 : Hid (∀ X : Grown w10, Calls Tryd.prog 19 #[.string pv, .string msg, .agg #[.int .i64 ix, .slice so n c1, .slice po p c2]] X.w fun e w' => e = .returned (.bool v2) ∧ Below X.w.heap.size X.w w') := Lib.hid fun X => by
            rw [Hv2.out]; exact HRr.out pv HF'.out X.w (below_step HB10.out X.below)
          go_wp2_with fail
          refine wp_region_grown (by kernel_rfl) (by kernel_rfl) ?_
          iterate 8 (go_big_quiet_step (fail))
          go_big_quiet_step (exact grown_of (HV1.out _))
          iterate 3 (go_big_quiet_step (fail))
          go_big_quiet_step (exact grown_of (HR1.out _))
          iterate 6 (go_big_quiet_step (fail))
          go_big_quiet_step (exact grown_of (HV2.out _))
          iterate 3 (go_big_quiet_step (fail))
          go_big_quiet_step (exact grown_of (HR2.out _))
          repeat (go_big_quiet_step (fail))
          refine wpQuiet_nil ?_
          rintro _ ⟨X, rfl⟩
          have HWe := Lib.hid (below_step HB10.out X.below)
          clear e0 e1 e2
          generalize X.w = W11 at HWe ⊢
          go_wp2_with fail
          go_ret
          exact ⟨ret_bool (by simp), HWe.out⟩

end Go.Proofs.YtfnbdjjobndgfaaDoor
