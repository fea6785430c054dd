/- The walk of the reference's Sign. -/
import Derived.Test.YtfnbdjjobndgfaaDoorSgnRefC
import Derived.Test.YtfnbdjjobndgfaaDoorSgnSignBad
import Derived.Test.YtfnbdjjobndgfaaDoorSgnSign
namespace Go.Proofs.YtfnbdjjobndgfaaDoor
open Go.RowKit

def SignPost (sec msg : ByteArray) (h idx : Nat) (w : World) (e : Ending) (w' : World) : Prop :=
  (∃ so po c1 c2, e = .returned (.tuple #[.agg #[.int .i64 idx, .slice so 18 c1, .slice po h c2], .int .i64 0]) ∧ IsStrs w' so (Sgn.sigV sec idx msg) ∧ IsStrs w' po (Sgn.pathV sec h idx)) ∧ Below w.heap.size w w'
theorem IsStrs.only {w w' : World} {F : Nat → Prop} {ao : Option Addr} {l : List ByteArray} (h : IsStrs w ao l) (ho : Only F w w') (hf : ∀ b, F b → ∃ t cs, Whole w b t cs ∧ ∀ (k : Nat) s, cs[k]? ≠ some (Value.string s)) : IsStrs w' ao l := by
  rcases h with h | ⟨bk, off, h1, h2, h3⟩
  · exact Or.inl h
  · refine Or.inr ⟨bk, off, h1, Nat.lt_of_lt_of_le h2 ho.size, fun k hk => ho.cell (h3 k hk) fun hF => ?_⟩
    obtain ⟨t, cs, hw, hn⟩ := hf bk hF
    have := h3 k hk
    rw [hw.cell] at this
    exact hn _ _ this
theorem seal_nostr (i : Int) (a b : Option Addr) (n c m d : Nat) : ∀ (k : Nat) s, (#[Value.int .i64 i, .slice a n c, .slice b m d] : Array Value)[k]? ≠ some (Value.string s) := by
  intro k s hk
  rcases k with _ | _ | _ | k <;> simp at hk
def sigUp (sec : ByteArray) (i : Nat) (m : ByteArray) (n : Nat) : List ByteArray := (List.range n).map fun k => Sgn.chainV (Sgn.dAt m k) (Sgn.startV sec i k)
theorem sigUp_succ (sec : ByteArray) (i : Nat) (m : ByteArray) (n : Nat) : sigUp sec i m (n + 1) = sigUp sec i m n ++ [Sgn.chainV (Sgn.dAt m n) (Sgn.startV sec i n)] := by
  unfold sigUp
  rw [List.range_succ, List.map_append]
  rfl

set_option maxRecDepth 100000 in
set_option maxHeartbeats 8000000 in
theorem refSign_good (sec msg : ByteArray) (hs : sec.size ≤ 300) (hm : msg.size ≤ 140737488351232) (h idx : Nat) (hh : h ≤ 8) (hi : idx < 2 ^ h) (w : World) :
    Calls Tryd.prog 16 #[.string sec, .int .i64 h, .int .i64 idx, .string msg] w (SignPost sec msg h idx w) := by
  obtain ⟨i1, hi1, hy0, hy1, hy2⟩ := info_parts info_str
  obtain ⟨N, HN⟩ : ∃ N, Hid (N = 2 ^ h) := ⟨_, Lib.hid rfl⟩
  have hN8 : N ≤ 256 := by rw [HN.out]; exact Nat.pow_le_pow_right (by decide) hh
  have HPw : Hid (∀ X, Calls Tryd.prog 33 #[.int .i64 h] X fun e w' => e = .returned (.int .i64 (N : Int)) ∧ X = w') := Lib.hid fun X => by rw [HN.out]; exact refPower_any h hh X
  have HKy : Hid (∀ X, Calls Tryd.prog 29 #[.string sec, .int .i64 h] X fun e w' => ∃ vo vc, e = .returned (.slice vo N vc) ∧ IsStrs w' vo (Sgn.level sec h 0) ∧ Below X.heap.size X w') := Lib.hid fun X => by rw [HN.out]; exact refKeys_any sec hs h hh X
  have HPt : Hid (∀ X vo vc, IsStrs X vo (Sgn.level sec h 0) → Calls Tryd.prog 37 #[.slice vo N vc, .int .i64 idx] X fun e w' => ∃ vo vc, e = .returned (.slice vo h vc) ∧ IsStrs w' vo (Sgn.pathV sec h idx) ∧ Below X.heap.size X w') := Lib.hid fun X vo vc hX => by rw [HN.out]; exact refPath_any sec h idx hh hi vo vc X hX
  have hi3 : idx < 1000 := Nat.lt_of_lt_of_le hi (Nat.le_trans (Nat.pow_le_pow_right (by decide) hh) (show 2 ^ 8 ≤ 1000 by decide))
  have HSt : Hid (∀ k : Nat, k < 18 → ∀ X, Calls Tryd.prog 36 #[.string sec, .int .i64 idx, .int .i64 k] X fun e w' => e = .returned (.string (Sgn.startV sec idx k)) ∧ Below X.heap.size X w') := Lib.hid fun k hk X => refStart_any sec hs idx k hi3 (by omega) X
  have hiN : idx < N := by rw [HN.out]; exact hi
  have d0 : decide ((h : Int) < 0) = false := decide_eq_false (by omega)
  have d1 : decide ((8 : Int) < h) = false := decide_eq_false (by omega)
  have d2 : decide ((idx : Int) < 0) = false := decide_eq_false (by omega)
  have d3 : decide ((N : Int) ≤ idx) = false := decide_eq_false (by omega)
  have d1n : decide (8 < h) = false := decide_eq_false (by omega)
  have d3n : decide (N ≤ idx) = false := decide_eq_false (by omega)
  have HDi := Lib.hid fun (X : World) => refDig_any msg hm X
  clear hs hi hm
  go_enter Tryd.func16, Tryd.ntmps16
  go_wp2_with fail
  refine (HPw.out _).mono ?_
  rintro e _ ⟨rfl, rfl⟩
  go_wp2_with fail
  obtain ⟨W0, HW0⟩ : ∃ x, Hid (x = (w.alloc (.cells #[.int .i64 0, .slice none 0 0, .slice none 0 0] 24)).alloc (.cells #[.int .i64 idx, .slice none 0 0, .slice none 0 0] 24)) := ⟨_, Lib.hid rfl⟩
  have HB0 : Hid (Below w.heap.size w W0) := Lib.hid (by
    rw [HW0.out]
    exact ((Below.refl _ _).alloc (Nat.le_refl _) _).alloc (by rw [size_alloc]; omega) _)
  have HR0 : Hid (Whole W0 w.heap.size 24 #[.int .i64 0, .slice none 0 0, .slice none 0 0]) := Lib.hid (by
    rw [HW0.out]
    exact (Whole.new _ _ _).alloc _)
  have HS0 : Hid (Whole W0 (w.heap.size + 1) 24 #[.int .i64 idx, .slice none 0 0, .slice none 0 0]) := Lib.hid (by
    rw [HW0.out]
    have := Whole.new (w.alloc (.cells #[.int .i64 0, .slice none 0 0, .slice none 0 0] 24)) 24 #[.int .i64 idx, .slice none 0 0, .slice none 0 0]
    rwa [size_alloc] at this)
  rw [← HW0.out]
  refine (HDi.out _).mono ?_
  rintro e W1 ⟨gd, cd, rfl, hdg, hb⟩
  have HB01 := Lib.hid hb
  have HDg := Lib.hid hdg
  have HB1 := Lib.hid (HB0.out.trans (hb.mono HB0.out.size))
  obtain ⟨R, HRq⟩ : ∃ x, Hid (x = w.heap.size) := ⟨_, Lib.hid rfl⟩
  obtain ⟨B, HBq⟩ : ∃ x, Hid (x = w.heap.size + 1) := ⟨_, Lib.hid rfl⟩
  rw [← HRq.out] at HR0
  rw [← HBq.out] at HS0 ⊢
  rw [← HRq.out]
  have HR1 := Lib.hid ((hb.block _ HR0.out.lt).trans HR0.out)
  have HS1 := Lib.hid ((hb.block _ HS0.out.lt).trans HS0.out)
  clear hb hdg HW0
  go_wp2_with fail
  go_loopw [12] (fun i wr => ∃ n : Nat, n ≤ 18 ∧ i = .int .i64 n ∧ ∃ vo vc, Hid (Whole wr B 24 #[.int .i64 idx, .slice vo n vc, .slice none 0 0]) ∧ Hid (wr.ownsRow W1.heap.size 9 1 (.slice vo n vc) n (strC (sigUp sec idx msg n))) ∧ Hid (Only (fun b => b = B) W1 wr)) (fun i _ => 18 - (intOf i).toNat)
  case atStart => exact ⟨0, by omega, rfl, none, 0, HS1, Lib.hid (World.ownsRow_nil _ _ _ _), Lib.hid (Only.refl _ _)⟩
  case round =>
    obtain ⟨n, hn, rfl, vo, vc, HWc, HRow, HOn⟩ := hrel
    by_cases hlt : n < 18
    · have hlt' : (n : Int) < 18 := by omega
      have u1 : wr.cell? ⟨B, 1, none⟩ = some (.slice vo n vc) := HWc.out.cell 1
      obtain ⟨d, Hd⟩ : ∃ x, Hid (x = Sgn.dAt msg n) := ⟨_, Lib.hid rfl⟩
      have hd15 : d ≤ 15 := by rw [Hd.out]; exact Sgn.dAt_le _ _
      have u2 : wr.cell? ⟨gd, n, none⟩ = some (.int .i64 (d : Int)) := by
        have h1 := HDg.out.2 n hlt
        rw [← Hd.out] at h1
        refine HOn.out.cell h1 ?_
        rintro rfl
        have h2 := HS1.out
        have h3 : W1.cell? ⟨gd, 0, none⟩ = some (.int .i64 idx) := Whole.cell h2 0
        have h4 : W1.cell? ⟨gd, 1, none⟩ = some (.slice none 0 0) := Whole.cell h2 1
        rw [HDg.out.2 1 (by decide)] at h4
        cases h4
      have e1 : ∀ X : Grown wr, X.w.cell? ⟨B, 1, none⟩ = some (.slice vo n vc) := fun X => (X.cell (lt_of_cell u1)).trans u1
      have e2 : ∀ X : Grown wr, X.w.cell? ⟨gd, n, none⟩ = some (.int .i64 (d : Int)) := fun X => (X.cell (lt_of_cell u2)).trans u2
      obtain ⟨sv, Hsv⟩ : ∃ y, Hid (y = Sgn.startV sec idx n) := ⟨_, Lib.hid rfl⟩
      have HStn : Hid (∀ X, Calls Tryd.prog 36 #[.string sec, .int .i64 idx, .int .i64 n] X fun e w' => e = .returned (.string sv) ∧ Below X.heap.size X w') := Lib.hid fun X => by
        rw [Hsv.out]; exact HSt.out n hlt X
      have HCh := Lib.hid fun (X : World) => refChain_any sv (by rw [Hsv.out, startV_size]; decide) d (by omega) X
      obtain ⟨cv, Hcv⟩ : ∃ y, Hid (y = Sgn.chainV d sv) := ⟨_, Lib.hid rfl⟩
      rw [← Hcv.out] at HCh
      clear u1 u2
      go_wp2_with fail
      refine (wpIn_wide (n := 1)).1 ?_
      refine wpIn_region_calm [0, 1, 2, 3, 4, 6, 7, 8, 9] [5, 10, 11, 12, 13, 14] [12, 13, 14] (fun w' => ∃ X : Grown wr, w' = X.w) (by kernel_rfl) (by kernel_rfl) rfl (by kernel_rfl) (by kernel_rfl) ⟨⟨wr.drew, (Below.refl _ _).drew⟩, rfl⟩ ?_
      simp only [List.filterMap_cons, List.filterMap_nil, List.getElem?_toArray, List.getElem?_cons_zero, List.getElem?_cons_succ]
      refine (show wpQuiet _ _ _ _ (_ :: _ :: _ :: _ :: _ :: _ :: _ :: _ :: _ :: []) _ from ?_)
      repeat (go_big_quiet_step (fail))
      refine wpQuiet_nil ?_
      refine wpTail_cons rfl rfl fun K hK => ?_
      go_simp
      refine ⟨trivial, ?_⟩
      refine (callsIn_wide.2 (HStn.out wr.drew)).mono ?_
      rintro e X0 ⟨rfl, hb⟩
      have HX0 : Hid (Below wr.heap.size wr X0) := Lib.hid ((Below.refl _ _).drew.trans hb)
      refine hK _ _ (fun _ => ⟨⟨X0, HX0.out⟩, rfl⟩) ?_
      clear hK K hb
      refine wpTail_cons rfl rfl fun K hK => ?_
      go_simp
      refine ⟨trivial, ?_⟩
      refine (callsIn_wide.2 (HCh.out X0)).mono ?_
      rintro e _ ⟨rfl, rfl⟩
      refine hK _ _ (fun _ => ⟨⟨X0, HX0.out⟩, rfl⟩) ?_
      clear hK K
      refine wpTail_cons rfl rfl fun K hK => ?_
      go_simp
      refine hK _ _ (fun _ => ⟨⟨X0.alloc (.cells #[.string cv] 9), HX0.out.alloc HX0.out.size _⟩, rfl⟩) ?_
      clear hK K
      have HR2 : Hid (X0.ownsRow W1.heap.size 9 1 (.slice vo n vc) n (strC (sigUp sec idx msg n))) := Lib.hid (owns_grown HRow.out HX0.out)
      have HW2 : Hid (Whole X0 B 24 #[.int .i64 idx, .slice vo n vc, .slice none 0 0]) := Lib.hid ((HX0.out.block _ HWc.out.lt).trans HWc.out)
      have HO0 : Hid (Only (fun b => b = B) W1 X0) := Lib.hid (HOn.out.trans (Only.of_below _ HX0.out))
      have HNw := Lib.hid (newStr X0 cv)
      refine wpTail_cons rfl rfl fun K hK => ?_
      refine wpIn_append_lies _ (.tmp 39) (.tmp 49) 22 rfl W1.heap.size 9 i1 (.string ⟨#[]⟩) 1 16 Tryd.underlying22 hi1 hy0 hy1 hy2 rfl (by decide) (.slice vo n vc) n (strC (sigUp sec idx msg n)) (by simp [Act.eval]) (HR2.out.alloc _) ⟨X0.heap.size, 0, none⟩ 1 1 [.string cv] (by simp [Act.eval]) rfl HNw.out (by simp [Value.oneCell']) (by decide) (by unfold maxLen; omega) (by omega) (by rw [size_alloc]; have := HO0.out.size; omega) ?_
      intro g' cap' w10 hown hgrow _ _
      refine hK _ _ (fun h => absurd h (by decide)) ?_
      clear hK K
      have hne : (Value.slice vo n vc).ownBlock ≠ some B := owns_ne' HR2.out HW2.out (by decide)
      have HC10 : Hid (Whole w10 B 24 #[.int .i64 idx, .slice vo n vc, .slice none 0 0]) := Lib.hid ((hgrow.block B (by rw [size_alloc]; have := HW2.out.lt; omega) (fun hh => hne hh.symm)).trans (HW2.out.alloc _))
      have y1 : w10.cell? ⟨B, 1, none⟩ = some (.slice vo n vc) := HC10.out.cell 1
      have y2 := HC10.out.frozen 1
      have HO := Lib.hid hown
      have HOn10 : Hid (Only (fun b => b = B) W1 w10) := Lib.hid ((HO0.out.alloc _).next (G := fun b => (Value.slice vo n vc).ownBlock = some b) (Only.of_grown hgrow fun k e => e) (fun b hb => Or.inr (HR2.out.lt b hb).1))
      clear hown hgrow e1 e2
      refine wpTail_cons rfl rfl fun K hK => ?_
      go_simp
      refine hK _ _ (fun h => absurd h (by decide)) ?_
      clear hK K
      refine wpTail_cons rfl rfl fun K hK => ?_
      go_simp
      refine hK _ _ (fun h => absurd h (by decide)) ?_
      clear hK K
      refine wpTail_calm ?_
      go_wp2_with fail
      go_roundw
      case rel =>
        refine ⟨n + 1, by omega, by go_num, some ⟨g', 0, none⟩, cap', Lib.hid (HC10.out.set 1 _), Lib.hid ?_, Lib.hid (HOn10.out.setCell (Or.inl rfl) _)⟩
        have hne2 : (Value.slice (some ⟨g', 0, none⟩) (n + 1) cap').ownBlock ≠ some B := owns_ne' HO.out HC10.out (by decide)
        have e : strC (sigUp sec idx msg (n + 1)) = strC (sigUp sec idx msg n) ++ [.string cv] := by rw [sigUp_succ, strC_snoc, Hcv.out, Hd.out, Hsv.out]
        rw [e]
        exact HO.out.kept (row := some B) ⟨rfl, rfl, rfl, by simp, fun j _ hj => Below.heap_setCell _ _ _ _ (fun e => hj (by rw [e]))⟩ (Or.inr hne2)
      case measure => simp [intOf]; omega
    · obtain rfl : n = 18 := by omega
      have hRB : R < B := by rw [HRq.out, HBq.out]; omega
      have hRB2 : ¬ R = B := by omega
      have hRB3 : ¬ B = R := by omega
      have hBW : B < W1.heap.size := (Array.getElem?_eq_some_iff.1 HS1.out).1
      have HRr : Hid (Whole wr R 24 #[.int .i64 0, .slice none 0 0, .slice none 0 0]) := Lib.hid (HOn.out.whole HR1.out hRB2)
      go_wp2_with fail
      refine (HKy.out _).mono ?_
      rintro e w3 ⟨vo3, vc3, rfl, hlv, hb⟩
      have HB3 := Lib.hid hb
      have HLv := Lib.hid hlv
      clear hb hlv
      go_wp2_with fail
      refine (HPt.out _ _ _ HLv.out).mono ?_
      rintro e w4 ⟨po, pc, rfl, hp, hb⟩
      have HB4 : Hid (Below wr.heap.size wr w4) := Lib.hid (below_step HB3.out hb)
      have HPp := Lib.hid hp
      have HW4 : Hid (Whole w4 B 24 #[.int .i64 idx, .slice vo 18 vc, .slice none 0 0]) := Lib.hid ((HB4.out.block _ HWc.out.lt).trans HWc.out)
      have HR4 : Hid (Whole w4 R 24 #[.int .i64 0, .slice none 0 0, .slice none 0 0]) := Lib.hid ((HB4.out.block _ HRr.out.lt).trans HRr.out)
      have HV4 : Hid (IsStrs w4 vo (Sgn.sigV sec idx msg)) := Lib.hid (strs_of_row (l := sigUp sec idx msg 18) (owns_grown HRow.out HB4.out) (by simp [sigUp]))
      have k0 : w4.cell? ⟨B, 0, none⟩ = some (.int .i64 idx) := HW4.out.cell 0
      have k1 : w4.cell? ⟨B, 1, none⟩ = some (.slice vo 18 vc) := HW4.out.cell 1
      have k2 : w4.cell? ⟨B, 2, none⟩ = some (.slice none 0 0) := HW4.out.cell 2
      have k3 := HW4.out.frozen 2
      have c0 : w4.cell? ⟨R, 0, none⟩ = some (.int .i64 0) := HR4.out.cell 0
      have c1 : w4.cell? ⟨R, 1, none⟩ = some (.slice none 0 0) := HR4.out.cell 1
      have c2 : w4.cell? ⟨R, 2, none⟩ = some (.slice none 0 0) := HR4.out.cell 2
      have f0 := HR4.out.frozen 0
      have f1 := HR4.out.frozen 1
      have f2 := HR4.out.frozen 2
      clear hb hp
      go_wp2_with fail
      have HO5 : Hid (Only (fun b => b = B ∨ b = R) w4 ((((w4.setCell ⟨B, 2, none⟩ (.slice po h pc)).setCell ⟨R, 0, none⟩ (.int .i64 idx)).setCell ⟨R, 1, none⟩ (.slice vo 18 vc)).setCell ⟨R, 2, none⟩ (.slice po h pc))) := Lib.hid (((((Only.refl (fun b => b = B ∨ b = R) w4).setCell (p := ⟨B, 2, none⟩) (Or.inl (Or.inl rfl)) _).setCell (p := ⟨R, 0, none⟩) (Or.inl (Or.inr rfl)) _).setCell (p := ⟨R, 1, none⟩) (Or.inl (Or.inr rfl)) _).setCell (p := ⟨R, 2, none⟩) (Or.inl (Or.inr rfl)) _)
      have HWe : Hid (Whole ((((w4.setCell ⟨B, 2, none⟩ (.slice po h pc)).setCell ⟨R, 0, none⟩ (.int .i64 idx)).setCell ⟨R, 1, none⟩ (.slice vo 18 vc)).setCell ⟨R, 2, none⟩ (.slice po h pc)) R 24 #[.int .i64 idx, .slice vo 18 vc, .slice po h pc]) := Lib.hid ((((HR4.out.far (p := ⟨B, 2, none⟩) hRB2 _).set 0 _).set 1 _).set 2 _)
      generalize ((((w4.setCell ⟨B, 2, none⟩ (.slice po h pc)).setCell ⟨R, 0, none⟩ (.int .i64 idx)).setCell ⟨R, 1, none⟩ (.slice vo 18 vc)).setCell ⟨R, 2, none⟩ (.slice po h pc)) = W5 at HO5 HWe ⊢
      have g0 : W5.cell? ⟨R, 0, none⟩ = some (.int .i64 idx) := HWe.out.cell 0
      have g1 : W5.cell? ⟨R, 1, none⟩ = some (.slice vo 18 vc) := HWe.out.cell 1
      have g2 : W5.cell? ⟨R, 2, none⟩ = some (.slice po h pc) := HWe.out.cell 2
      have hns : ∀ b, (b = B ∨ b = R) → ∃ t cs, Whole w4 b t cs ∧ ∀ (k : Nat) s, cs[k]? ≠ some (Value.string s) := by
        rintro b (rfl | rfl)
        · exact ⟨_, _, HW4.out, seal_nostr _ _ _ _ _ _ _⟩
        · exact ⟨_, _, HR4.out, seal_nostr _ _ _ _ _ _ _⟩
      have HBe : Hid (Below w.heap.size w W5) := Lib.hid (by
        have h1 : Only (fun b => b = B ∨ b = R) W1 W5 := ((HOn.out.mono (fun b hb => Or.inl hb)).trans (Only.of_below _ HB4.out)).trans HO5.out
        exact HB1.out.trans (h1.below (B := w.heap.size) HB1.out.size (fun b hb => by
          have := HRq.out
          have := HBq.out
          rcases hb with hb | hb <;> omega)))
      refine bodyPost_ret (v := .tuple #[.agg #[.int .i64 idx, .slice vo 18 vc, .slice po h pc], .int .i64 0]) (by simp [results, Tryd.results16, go_sem, g0, g1, g2]) rfl ⟨⟨vo, po, vc, pc, rfl, HV4.out.only HO5.out hns, HPp.out.only HO5.out hns⟩, HBe.out⟩

set_option maxRecDepth 100000 in
set_option maxHeartbeats 4000000 in
theorem refSign_bad (sec msg : ByteArray) (h idx : Int) (hb : (decide (0 ≤ h) && decide (h ≤ 8)) = false ∨ idx < 0 ∨ ∃ k : Nat, h = k ∧ k ≤ 8 ∧ ((2 ^ k : Nat) : Int) ≤ idx) (w : World) :
    Calls Tryd.prog 16 #[.string sec, .int .i64 h, .int .i64 idx, .string msg] w fun e w' => e = .returned noSeal ∧ Below w.heap.size w w' := by
  have HW0 := Lib.hid (Whole.new w 24 #[.int .i64 0, .slice none 0 0, .slice none 0 0])
  have HB0 : Hid (Below w.heap.size w (w.alloc (.cells #[.int .i64 0, .slice none 0 0, .slice none 0 0] 24))) := Lib.hid ((Below.refl _ _).alloc (Nat.le_refl _) _)
  by_cases h0 : h < 0
  · have d0 : decide (h < 0) = true := decide_eq_true h0
    clear hb
    go_enter Tryd.func16, Tryd.ntmps16
    go_wp2_with fail
    have HWe := HW0
    have HBe := HB0
    generalize w.alloc (.cells #[.int .i64 0, .slice none 0 0, .slice none 0 0] 24) = W5 at HWe HBe ⊢
    have g0 : W5.cell? ⟨w.heap.size, 0, none⟩ = some (.int .i64 0) := HWe.out.cell 0
    have g1 : W5.cell? ⟨w.heap.size, 1, none⟩ = some (.slice none 0 0) := HWe.out.cell 1
    have g2 : W5.cell? ⟨w.heap.size, 2, none⟩ = some (.slice none 0 0) := HWe.out.cell 2
    refine bodyPost_ret (v := noSeal) (by simp [results, Tryd.results16, go_sem, noSeal, g0, g1, g2]) rfl ⟨rfl, HBe.out⟩
  · have d0 : decide (h < 0) = false := decide_eq_false h0
    by_cases h8 : 8 < h
    · have d1 : decide (8 < h) = true := decide_eq_true h8
      clear hb
      go_enter Tryd.func16, Tryd.ntmps16
      go_wp2_with fail
      have HWe := HW0
      have HBe := HB0
      generalize w.alloc (.cells #[.int .i64 0, .slice none 0 0, .slice none 0 0] 24) = W5 at HWe HBe ⊢
      have g0 : W5.cell? ⟨w.heap.size, 0, none⟩ = some (.int .i64 0) := HWe.out.cell 0
      have g1 : W5.cell? ⟨w.heap.size, 1, none⟩ = some (.slice none 0 0) := HWe.out.cell 1
      have g2 : W5.cell? ⟨w.heap.size, 2, none⟩ = some (.slice none 0 0) := HWe.out.cell 2
      refine bodyPost_ret (v := noSeal) (by simp [results, Tryd.results16, go_sem, noSeal, g0, g1, g2]) rfl ⟨rfl, HBe.out⟩
    · have d1 : decide (8 < h) = false := decide_eq_false h8
      by_cases hi : idx < 0
      · have d2 : decide (idx < 0) = true := decide_eq_true hi
        clear hb
        go_enter Tryd.func16, Tryd.ntmps16
        go_wp2_with fail
        have HWe := HW0
        have HBe := HB0
        generalize w.alloc (.cells #[.int .i64 0, .slice none 0 0, .slice none 0 0] 24) = W5 at HWe HBe ⊢
        have g0 : W5.cell? ⟨w.heap.size, 0, none⟩ = some (.int .i64 0) := HWe.out.cell 0
        have g1 : W5.cell? ⟨w.heap.size, 1, none⟩ = some (.slice none 0 0) := HWe.out.cell 1
        have g2 : W5.cell? ⟨w.heap.size, 2, none⟩ = some (.slice none 0 0) := HWe.out.cell 2
        refine bodyPost_ret (v := noSeal) (by simp [results, Tryd.results16, go_sem, noSeal, g0, g1, g2]) rfl ⟨rfl, HBe.out⟩
      · have d2 : decide (idx < 0) = false := decide_eq_false hi
        obtain ⟨k, rfl, hk, h2⟩ : ∃ k : Nat, h = k ∧ k ≤ 8 ∧ ((2 ^ k : Nat) : Int) ≤ idx := by
          rcases hb with hb | hb | hb
          · rw [decide_eq_true (show 0 ≤ h by omega), decide_eq_true (show h ≤ 8 by omega)] at hb
            cases hb
          · exact absurd hb hi
          · exact hb
        obtain ⟨N, HN⟩ : ∃ N, Hid (N = 2 ^ k) := ⟨_, Lib.hid rfl⟩
        have HPw : Hid (∀ X, Calls Tryd.prog 33 #[.int .i64 k] X fun e w' => e = .returned (.int .i64 (N : Int)) ∧ X = w') := Lib.hid fun X => by rw [HN.out]; exact refPower_any k hk X
        rw [← HN.out] at h2
        have d3 : decide ((N : Int) ≤ idx) = true := decide_eq_true h2
        clear h2 hb
        go_enter Tryd.func16, Tryd.ntmps16
        go_wp2_with fail
        refine (HPw.out _).mono ?_
        rintro e _ ⟨rfl, rfl⟩
        go_wp2_with fail
        have HWe := HW0
        have HBe := HB0
        generalize w.alloc (.cells #[.int .i64 0, .slice none 0 0, .slice none 0 0] 24) = W5 at HWe HBe ⊢
        have g0 : W5.cell? ⟨w.heap.size, 0, none⟩ = some (.int .i64 0) := HWe.out.cell 0
        have g1 : W5.cell? ⟨w.heap.size, 1, none⟩ = some (.slice none 0 0) := HWe.out.cell 1
        have g2 : W5.cell? ⟨w.heap.size, 2, none⟩ = some (.slice none 0 0) := HWe.out.cell 2
        refine bodyPost_ret (v := noSeal) (by simp [results, Tryd.results16, go_sem, noSeal, g0, g1, g2]) rfl ⟨rfl, HBe.out⟩

end Go.Proofs.YtfnbdjjobndgfaaDoor
