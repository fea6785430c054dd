/- The walk of sign.Sign. -/
import Derived.Test.YtfnbdjjobndgfaaDoorSgnVerify
import Derived.Test.YtfnbdjjobndgfaaDoorSgnUp
namespace Go.Proofs.YtfnbdjjobndgfaaDoor
open Go.RowKit Go.Shelf

attribute [local go_sem] Oper.semAt_some

/-- The worlds of a class. -/
def Cls (C : World → Prop) : Type := { x : World // C x }
def Cls.w {C : World → Prop} (x : Cls C) : World := x.1
theorem Cls.out {C : World → Prop} (x : Cls C) : C x.w := x.2
def sigAt (sec : ByteArray) (idx : Nat) (m : ByteArray) (q : Fin 18) : ByteArray := Sgn.chainV (Sgn.dAt m q.val) (Sgn.startV sec idx q.val)
theorem owns_only {w w' : World} {F : Nat → Prop} {base : Nat} {e : TypeId} {size : Nat} {v : Value} {n : Nat} {xs : List Value} (h : w.ownsRow base e size v n xs) (hb : Only F w w') (hv : ∀ g, v.ownBlock = some g → ¬ F g) : w'.ownsRow base e size v n xs := by
  have hlt := h.lt
  rcases h with ⟨h1, h2 | ⟨g, cap, cur, rfl, hB, hc, rest⟩⟩
  · exact ⟨h1, Or.inl h2⟩
  · exact ⟨h1, Or.inr ⟨g, cap, cur, rfl, hB, (hb.block g (hlt g rfl).2 (hv g rfl)).trans hc, rest⟩⟩
theorem owns_cells' {w : World} {base : Nat} {e : TypeId} {size : Nat} {v : Value} {n : Nat} {xs : List Value} {g : Nat} {ds : Option (List Deferred)} (h : w.ownsRow base e size v n xs) (hv : v.ownBlock = some g) (hd : w.heap[g]? = some (.deferred ds)) : False := by
  have := owns_cells h g _ hv hd
  cases this
theorem owns_cap' {w : World} {base : Nat} {e : TypeId} {size : Nat} {ao : Option Addr} {n cap : Nat} {xs : List Value} (h : w.ownsRow base e size (.slice ao n cap) n xs) : n ≤ cap := by
  rcases h.2 with ⟨hh, h0⟩ | ⟨g', cap', cur, hv, _, _, hle, _⟩
  · omega
  · simp only [Value.slice.injEq] at hv
    omega
theorem newStr (X : World) (s : ByteArray) : ∀ (i : Nat) (u : Value), [Value.string s][i]? = some u → (X.alloc (.cells #[.string s] 9)).cell? ((⟨X.heap.size, 0, none⟩ : Addr).add i) = some u := by
  intro i u hu
  have e : (⟨X.heap.size, 0, none⟩ : Addr).add i = ⟨X.heap.size, i, none⟩ := by unfold Addr.add; split <;> simp_all
  rw [e, cell_alloc, if_pos rfl]
  simpa using hu
theorem xor_at (n k : Nat) (h : n ≤ 256) : bits BinOp.xor IntKind.i64 ((n : Int) / 2 ^ k) 1 = ((n / 2 ^ k ^^^ 1 : Nat) : Int) := by
  have h1 : ∀ q : Fin 257, bits BinOp.xor IntKind.i64 ((q.val : Nat) : Int) 1 = ((q.val ^^^ 1 : Nat) : Int) := by decide +kernel
  have h2 : (n : Int) / 2 ^ k = ((n / 2 ^ k : Nat) : Int) := by push_cast; rfl
  rw [h2]
  exact h1 ⟨n / 2 ^ k, by have := Nat.div_le_self n (2 ^ k); omega⟩
/-- What holds between two rounds over the digits. -/
def SigI (sec : ByteArray) (idx : Nat) (m : ByteArray) (B : Nat) (pre : List (Fin 18)) (W : World) : Prop :=
  ∃ eo ec, Whole W B 24 #[.int .i64 idx, .slice eo pre.length ec, .slice none 0 0] ∧ W.ownsRow B 9 1 (.slice eo pre.length ec) pre.length (strC (pre.map (sigAt sec idx m)))

theorem sig_of (sec : ByteArray) (idx : Nat) (m : ByteArray) {ys : List (Fin 18)} (h : ys.map (encD m) = dpairs m 18) : ys.map (sigAt sec idx m) = Sgn.sigV sec idx m := by
  rw [← enc_upFin m 18 (Nat.le_refl _)] at h
  rw [encD_inj m h]
  unfold upFin Sgn.sigV
  refine List.ext_getElem (by simp) fun i h1 h2 => ?_
  simp [sigAt]

set_option maxRecDepth 100000 in
set_option maxHeartbeats 8000000 in
theorem sign_good (sec msg : ByteArray) (hs : sec.size ≤ 300) (hm : msg.size ≤ 140737488351232) (h idx : Nat) (hh : h ≤ 8) (hi : idx < 2 ^ h) (w : World) (ht : Tab w) :
    CallsIn Fence.wide 6 Tryd.prog 15 #[.string sec, .int .i64 h, .int .i64 idx, .string msg] w
      fun e w' => (∃ so po c1 c2, e = .returned (.tuple #[.agg #[.int .i64 idx, .slice so 18 c1, .slice po h c2], .int .i64 0]) ∧ IsStrs w' so (Sgn.sigV sec idx msg) ∧ IsStrs w' po (Sgn.pathV sec h idx) ∧ 18 ≤ c1 ∧ h ≤ c2) ∧ Below w.heap.size w w' := by
  have hro : Fence.wide.round = none := rfl
  have hone : 1 ≤ 6 := by omega
  have HT := Lib.hid ht
  have HI : Hid (∀ w, Calls Tryd.prog 26 #[.int .i64 h] w fun e w' => e = .returned (.bool true) ∧ w = w') := Lib.hid fun w => by
    have := isHeight_any h w
    rw [decide_eq_true (show (0 : Int) ≤ h by omega), decide_eq_true (show (h : Int) ≤ 8 by omega)] at this
    exact this
  obtain ⟨N, HN⟩ : ∃ N, Hid (N = 2 ^ h) := ⟨_, Lib.hid rfl⟩
  have hN : wrap64 ((2 : Int) ^ h) = (N : Int) := by rw [HN.out]; exact wrap_pow h hh
  have hidx : idx < N := by rw [HN.out]; exact hi
  have hN2 : N ≤ 256 := by rw [HN.out]; exact Nat.pow_le_pow_right (by decide) hh
  have hh8 : (h : Int) ≤ 8 := by omega
  have hix : decide ((N : Int) ≤ idx) = false := decide_eq_false (by omega)
  have hixn : decide (N ≤ idx) = false := decide_eq_false (by omega)
  have hix0 : decide ((idx : Int) < 0) = false := decide_eq_false (by omega)
  obtain ⟨i1, hi1, hy0, hy1, hy2⟩ := info_parts info_str
  clear hi ht
  refine callsIn_of_wp_marks Tryd.func15 rfl trivial ?_ hro
  simp only [Tryd.ntmps15, List.size_toArray, List.length_cons, List.length_nil, Nat.reduceAdd, Nat.reduceSub, Array.replicate_succ, Array.replicate_zero, List.push_toArray, List.append_toArray, List.nil_append, List.cons_append]
  gi_wp2_with fail
  refine wpIn_wide.2 ?_
  obtain ⟨W0, HW0⟩ : ∃ x, Hid (x = ((w.alloc (.cells #[.string sec] 9)).alloc (.cells #[.int .i64 idx] 3)).alloc (.cells #[.int .i64 0, .slice none 0 0, .slice none 0 0] 24)) := ⟨_, Lib.hid rfl⟩
  have HB0 : Hid (Below w.heap.size w W0) := Lib.hid (by
    rw [HW0.out]
    exact (((Below.refl _ _).alloc (Nat.le_refl _) _).alloc (by rw [size_alloc]; omega) _).alloc (by rw [size_alloc, size_alloc]; omega) _)
  have hz0 : W0.heap.size = w.heap.size + 1 + 1 + 1 := by rw [HW0.out]; simp
  have a0 : W0.cell? ⟨w.heap.size, 0, none⟩ = some (.string sec) := by rw [HW0.out]; simp [cell_alloc]; omega
  have a1 : W0.cell? ⟨w.heap.size + 1, 0, none⟩ = some (.int .i64 idx) := by rw [HW0.out]; simp [cell_alloc]
  have HWr : Hid (Whole W0 (w.heap.size + 1 + 1) 24 #[.int .i64 0, .slice none 0 0, .slice none 0 0]) := Lib.hid (by
    rw [HW0.out]
    have := Whole.new ((w.alloc (.cells #[.string sec] 9)).alloc (.cells #[.int .i64 idx] 3)) 24 #[.int .i64 0, .slice none 0 0, .slice none 0 0]
    rwa [size_alloc, size_alloc] at this)
  rw [← HW0.out]
  have e1 : ∀ X : Grown W0, X.w.cell? ⟨w.heap.size + 1, 0, none⟩ = some (.int .i64 idx) := fun X => by rw [X.cell (by omega)]; exact a1
  refine wp_region_grown (by kernel_rfl) (by kernel_rfl) ?_
  repeat (go_big_quiet_step (exact grown_of_same (HI.out _)))
  refine wpQuiet_nil ?_
  rintro _ ⟨X, rfl⟩
  obtain ⟨W1, HW1⟩ : ∃ y, Hid (y = X.w) := ⟨_, Lib.hid rfl⟩
  have HB1 : Hid (Below W0.heap.size W0 W1) := Lib.hid (by rw [HW1.out]; exact X.below)
  have z0 : W1.cell? ⟨w.heap.size, 0, none⟩ = some (.string sec) := by rw [HB1.out.cell (p := ⟨w.heap.size, 0, none⟩) (by show w.heap.size < _; omega)]; exact a0
  have z1 : W1.cell? ⟨w.heap.size + 1, 0, none⟩ = some (.int .i64 idx) := by rw [HB1.out.cell (p := ⟨w.heap.size + 1, 0, none⟩) (by show w.heap.size + 1 < _; omega)]; exact a1
  rw [← HW1.out]
  clear a0 a1 e1
  gi_wp2_with fail
  refine ⟨trivial, ?_⟩
  refine (sdigits_any 5 msg _).mono ?_
  rintro e w2 ⟨rfl, rfl⟩
  gi_wp2_with fail
  obtain ⟨W2, HW2⟩ : ∃ x, Hid (x = (W1.alloc (.cells #[.int .i64 idx, .slice none 0 0, .slice none 0 0] 24)).alloc (.cells #[.string msg] 9)) := ⟨_, Lib.hid rfl⟩
  have hz2 : W2.heap.size = W1.heap.size + 1 + 1 := by rw [HW2.out]; simp
  have hBox : W2.cell? ⟨W1.heap.size + 1, 0, none⟩ = some (.string msg) := by rw [HW2.out, cell_alloc, size_alloc, if_pos rfl]; rfl
  have HWe : Hid (Whole W2 W1.heap.size 24 #[.int .i64 idx, .slice none 0 0, .slice none 0 0]) := Lib.hid (by rw [HW2.out]; exact (Whole.new _ _ _).alloc _)
  have HB2 : Hid (Below W1.heap.size W1 W2) := Lib.hid (by rw [HW2.out]; exact ((Below.refl _ _).alloc (Nat.le_refl _) _).alloc (by rw [size_alloc]; omega) _)
  have hz1 := HB1.out.size
  rw [← HW2.out]
  have HI0 : Hid (SigI sec idx msg W1.heap.size [] W2 ∧ Below W1.heap.size W2 W2) := Lib.hid ⟨⟨none, 0, HWe.out, World.ownsRow_nil _ _ _ _⟩, Below.refl _ _⟩
  refine wpIn_rangeFunc_ownG hro hone (gf := 51) (lb := #[.pointer (some ⟨W1.heap.size + 1, 0, none⟩)]) rfl trivial (enters_of Tryd.func51 (by kernel_rfl) rfl)
    (digits_stops 5 (by omega) msg hm (W1.heap.size + 1) W2 hBox) (fun _ _ => trivial) (fun _ _ _ _ _ _ _ _ => trivial) (Below.refl _ _) (fun _ => rfl)
    (fun pre W => SigI sec idx msg W1.heap.size pre W ∧ Below W1.heap.size W2 W) (fun _ _ _ => False)
    (OwnFrom.and (Own.from (fun s A B row hs hg hr => by
      obtain ⟨eo, ec, h1, h2⟩ := hs
      exact ⟨eo, ec, whole_kept h1 hg hr, owns_kept' h2 hg hr⟩) _) (ownFrom_below (by omega) (by omega)))
    (fun _ _ _ _ _ h _ _ => h.elim) HI0.out ?act ?assign ?body ?done ?stop
  case assign =>
    intro l' x W K hK
    gi_wp2
    exact hK
  case stop =>
    rintro D c pre W _ _ h
    exact h.elim
  case body =>
    rintro l' pre x W ⟨⟨eo, ec, hwh, hrw⟩, hB⟩ hlt
    obtain ⟨q, Hq⟩ : ∃ q, Hid (q = x.val) := ⟨_, Lib.hid rfl⟩
    obtain ⟨d, Hd⟩ : ∃ d, Hid (d = Sgn.dAt msg x.val) := ⟨_, Lib.hid rfl⟩
    have hq18 : q < 18 := by rw [Hq.out]; exact x.isLt
    have hd15 : d ≤ 15 := by rw [Hd.out]; exact Sgn.dAt_le _ _
    obtain ⟨np, Hnp⟩ : ∃ n, Hid (n = pre.length) := ⟨_, Lib.hid rfl⟩
    rw [← Hnp.out] at hlt hwh hrw
    have HWh := Lib.hid hwh
    have HRw := Lib.hid hrw
    have HBw : Hid (Below w.heap.size w W) := Lib.hid (HB0.out.trans ((HB1.out.mono (by omega)).trans ((HB2.out.trans hB).mono (by omega))))
    have HBW := Lib.hid hB
    have s0 : W.cell? ⟨w.heap.size, 0, none⟩ = some (.string sec) := by rw [HBW.out.cell (p := ⟨w.heap.size, 0, none⟩) (by show w.heap.size < _; omega), HB2.out.cell (p := ⟨w.heap.size, 0, none⟩) (by show w.heap.size < _; omega)]; exact z0
    have s1 : W.cell? ⟨w.heap.size + 1, 0, none⟩ = some (.int .i64 idx) := by rw [HBW.out.cell (p := ⟨w.heap.size + 1, 0, none⟩) (by show w.heap.size + 1 < _; omega), HB2.out.cell (p := ⟨w.heap.size + 1, 0, none⟩) (by show w.heap.size + 1 < _; omega)]; exact z1
    have s2 : W.cell? ⟨W1.heap.size, 1, none⟩ = some (.slice eo np ec) := HWh.out.cell 1
    obtain ⟨C, HC⟩ : ∃ C : World → Prop, Hid (C = fun w' => w'.cell? ⟨w.heap.size, 0, none⟩ = some (.string sec) ∧ w'.cell? ⟨w.heap.size + 1, 0, none⟩ = some (.int .i64 idx) ∧ w'.cell? ⟨W1.heap.size, 1, none⟩ = some (.slice eo np ec)) := ⟨_, Lib.hid rfl⟩
    have HCb : Hid (∀ X, Below W.heap.size W X → C X) := Lib.hid fun X hX => by
      rw [HC.out]
      exact ⟨(hX.cell (p := ⟨w.heap.size, 0, none⟩) (lt_of_cell s0)).trans s0, (hX.cell (p := ⟨w.heap.size + 1, 0, none⟩) (lt_of_cell s1)).trans s1, (hX.cell (p := ⟨W1.heap.size, 1, none⟩) (lt_of_cell s2)).trans s2⟩
    have hC2 : Hid (∀ w', C w' → w'.cell? ⟨w.heap.size, 0, none⟩ = some (.string sec) ∧ w'.cell? ⟨w.heap.size + 1, 0, none⟩ = some (.int .i64 idx) ∧ w'.cell? ⟨W1.heap.size, 1, none⟩ = some (.slice eo np ec)) := Lib.hid fun w' h => by rw [HC.out] at h; exact h
    have hC3 : Hid (∀ w', w'.cell? ⟨w.heap.size, 0, none⟩ = some (.string sec) → w'.cell? ⟨w.heap.size + 1, 0, none⟩ = some (.int .i64 idx) → w'.cell? ⟨W1.heap.size, 1, none⟩ = some (.slice eo np ec) → C w') := Lib.hid fun w' h1 h2 h3 => by rw [HC.out]; exact ⟨h1, h2, h3⟩
    have hne : Nonempty (Cls C) := ⟨⟨W, HCb.out W (Below.refl _ _)⟩⟩
    have e1 : ∀ X : Cls C, X.w.cell? ⟨w.heap.size, 0, none⟩ = some (.string sec) := fun X => (hC2.out X.w X.out).1
    have e2 : ∀ X : Cls C, X.w.cell? ⟨w.heap.size + 1, 0, none⟩ = some (.int .i64 idx) := fun X => (hC2.out X.w X.out).2.1
    have e3 : ∀ X : Cls C, X.w.cell? ⟨W1.heap.size, 1, none⟩ = some (.slice eo np ec) := fun X => (hC2.out X.w X.out).2.2
    clear hwh hrw hB s0 s1 s2
    rw [← Hd.out, ← Hq.out]
    gi_wp2_with fail
    refine wpIn_region_held [0, 1, 2, 3, 4, 6] [5, 7, 8, 9, 10, 11] [9, 10, 11] (fun w' => ∃ X : Cls C, w' = X.w) (by kernel_rfl) (by kernel_rfl) rfl (by kernel_rfl) (by kernel_rfl) (fun _ _ _ _ h => h) ⟨⟨W.drew, HCb.out _ (Below.refl _ _).drew⟩, rfl⟩ ?_
    simp only [List.filterMap_cons, List.filterMap_nil, List.getElem?_toArray, List.getElem?_cons_zero, List.getElem?_cons_succ]
    refine (show wpQuiet _ _ _ _ (_ :: _ :: _ :: _ :: _ :: _ :: []) _ from ?_)
    repeat (go_big_quiet_step (fail))
    refine wpQuiet_nil ?_
    have HTW : Hid (Tab W) := Lib.hid (HT.out.below HBw.out)
    obtain ⟨sv, Hsv⟩ : ∃ y, Hid (y = Sgn.startV sec idx q) := ⟨_, Lib.hid rfl⟩
    have HSt : Hid (∀ X, Below W.heap.size W X → Calls Tryd.prog 32 #[.string sec, .int .i64 idx, .int .i64 q] X fun e w' => e = .returned (.string sv) ∧ Below X.heap.size X w') := Lib.hid fun X hX => by
      rw [Hsv.out]; exact start_any sec hs idx q (by omega) (by omega) X (HTW.out.below hX)
    have HCh := Lib.hid fun (X : World) => chain_any sv (by rw [Hsv.out, startV_size]; decide) d (by omega) X
    obtain ⟨cv, Hcv⟩ : ∃ y, Hid (y = Sgn.chainV d sv) := ⟨_, Lib.hid rfl⟩
    rw [← Hcv.out] at HCh
    refine wpTail_cons rfl rfl fun K hK => ?_
    go_simp
    refine ⟨trivial, ?_⟩
    refine (CallsIn.inRound l' (callsIn_wide.2 (HSt.out _ (Below.refl _ _).drew))).mono ?_
    rintro e X0 ⟨rfl, hb⟩
    have HX0 : Hid (Below W.heap.size W X0) := Lib.hid (below_step (Below.refl _ _).drew hb)
    refine hK _ _ (fun _ => ⟨⟨X0, HCb.out _ HX0.out⟩, rfl⟩) ?_
    clear hK K hb
    refine wpTail_cons rfl rfl fun K hK => ?_
    go_simp
    refine ⟨trivial, ?_⟩
    refine (CallsIn.inRound l' (callsIn_wide.2 (HCh.out _))).mono ?_
    rintro e X1 ⟨rfl, hb⟩
    have HX1 : Hid (Below W.heap.size W X1) := Lib.hid (below_step HX0.out hb)
    refine hK _ _ (fun _ => ⟨⟨X1, HCb.out _ HX1.out⟩, rfl⟩) ?_
    clear hK K hb
    refine wpTail_cons rfl rfl fun K hK => ?_
    go_simp
    refine hK _ _ (fun _ => ⟨⟨X1.alloc (.cells #[.string cv] 9), HCb.out _ (HX1.out.alloc HX1.out.size _)⟩, rfl⟩) ?_
    clear hK K
    have HR1 : Hid (X1.ownsRow W1.heap.size 9 1 (.slice eo np ec) np (strC (pre.map (sigAt sec idx msg)))) := Lib.hid (owns_grown HRw.out HX1.out)
    have HW1' : Hid (Whole X1 W1.heap.size 24 #[.int .i64 idx, .slice eo np ec, .slice none 0 0]) := Lib.hid ((HX1.out.block _ HWh.out.lt).trans HWh.out)
    have HNw : Hid (∀ (i : Nat) (u : Value), [Value.string cv][i]? = some u → (X1.alloc (.cells #[.string cv] 9)).cell? ((⟨X1.heap.size, 0, none⟩ : Addr).add i) = some u) := Lib.hid (by
      intro i u hu
      have e : (⟨X1.heap.size, 0, none⟩ : Addr).add i = ⟨X1.heap.size, i, none⟩ := by unfold Addr.add; split <;> simp_all
      rw [e, cell_alloc, if_pos rfl]
      simpa using hu)
    have HBX : Hid (Below W1.heap.size W2 X1) := Lib.hid (HBW.out.trans (HX1.out.mono (by have := HBW.out.size; omega)))
    have hsX := HBX.out.size
    refine wpTail_cons rfl rfl fun K hK => ?_
    refine wpIn_append_lies _ (.tmp 36) (.tmp 43) 22 rfl W1.heap.size 9 i1 (.string ⟨#[]⟩) 1 16 Tryd.underlying22 hi1 hy0 hy1 hy2 rfl (by decide) (.slice eo np ec) np (strC (pre.map (sigAt sec idx msg))) (by simp [Act.eval]) (HR1.out.alloc _) ⟨X1.heap.size, 0, none⟩ 1 1 [.string cv] (by simp [Act.eval]) rfl HNw.out (by simp [Value.oneCell']) (by decide) (by unfold maxLen; omega) (by omega) (by rw [size_alloc]; omega) ?_
    intro g' cap' w10 hown hgrow _ _
    refine hK _ _ (fun h => absurd h (by decide)) ?_
    clear hK K
    have hne : (Value.slice eo np ec).ownBlock ≠ some W1.heap.size := owns_ne' HR1.out HW1'.out (by decide)
    have HC10 : Hid (Whole w10 W1.heap.size 24 #[.int .i64 idx, .slice eo np ec, .slice none 0 0]) := Lib.hid ((hgrow.block W1.heap.size (by rw [size_alloc]; have := HW1'.out.lt; omega) (fun hh => hne hh.symm)).trans (HW1'.out.alloc _))
    have u1 : w10.cell? ⟨W1.heap.size, 1, none⟩ = some (.slice eo np ec) := HC10.out.cell 1
    have u2 := HC10.out.frozen 1
    have HO := Lib.hid hown
    have HG := Lib.hid hgrow
    clear hown hgrow e1 e2 e3
    refine wpTail_cons rfl rfl fun K hK => ?_
    go_simp
    refine hK _ _ (fun h => absurd h (by decide)) ?_
    clear hK K
    refine wpTail_cons rfl rfl fun K hK => ?_
    go_simp
    refine hK _ _ (fun h => absurd h (by decide)) ?_
    refine ⟨?_, trivial, ⟨some ⟨g', 0, none⟩, cap', ?_, ?_⟩, ?_⟩
    · exact (keepsFrom_below HX1.out).trans (((KeepsOthers.alloc _ _).trans ((KeepsOthers.of_grownBy HG.out (fun j o e ho => owns_cells (HR1.out.alloc _) j o e ho)).trans (KeepsOthers.setCell _ _ _))).from _)
    · rw [List.length_append, ← Hnp.out]
      exact HC10.out.set 1 _
    · have hne2 : (Value.slice (some ⟨g', 0, none⟩) (np + 1) cap').ownBlock ≠ some W1.heap.size := owns_ne' HO.out HC10.out (by decide)
      have e : strC ((pre ++ [x]).map (sigAt sec idx msg)) = strC (pre.map (sigAt sec idx msg)) ++ [.string cv] := by
        rw [List.map_append, List.map_singleton, strC_snoc, Hcv.out, Hsv.out, Hd.out, Hq.out]; rfl
      rw [e, List.length_append, ← Hnp.out]
      exact HO.out.kept (row := some W1.heap.size) ⟨rfl, rfl, rfl, by simp, fun j _ hj => Below.heap_setCell _ _ _ _ (fun e => hj (by rw [e]))⟩ (Or.inr hne2)
    · exact Below.setCell ((HBX.out.alloc (by omega) _).grown HG.out (by rw [size_alloc]; omega) (fun j e => (HR1.out.lt j e).1)) (p := ⟨W1.heap.size, 1, none⟩) (Nat.le_refl _) _
  case done =>
    rintro D ys W hD hys ⟨⟨eo, ec, hwh, hrw⟩, hB⟩ hK
    have hl : ys.length = 18 := by have := congrArg List.length hys; rw [List.length_map, dpairs_len] at this; exact this
    rw [hl, sig_of sec idx msg hys] at hrw
    rw [hl] at hwh
    have hle : (Sgn.sigV sec idx msg).length = 18 := by simp [Sgn.sigV]
    have HWB : Hid (Below w.heap.size w W) := Lib.hid (HB0.out.trans ((HB1.out.mono (by omega)).trans ((HB2.out.trans hB).mono (by omega))))
    have s0 : W.cell? ⟨w.heap.size, 0, none⟩ = some (.string sec) := by rw [hB.cell (p := ⟨w.heap.size, 0, none⟩) (by show w.heap.size < _; omega), HB2.out.cell (p := ⟨w.heap.size, 0, none⟩) (by show w.heap.size < _; omega)]; exact z0
    have s1 : W.cell? ⟨w.heap.size + 1, 0, none⟩ = some (.int .i64 idx) := by rw [hB.cell (p := ⟨w.heap.size + 1, 0, none⟩) (by show w.heap.size + 1 < _; omega), HB2.out.cell (p := ⟨w.heap.size + 1, 0, none⟩) (by show w.heap.size + 1 < _; omega)]; exact z1
    have HSig : Hid (IsStrs W eo (Sgn.sigV sec idx msg)) := Lib.hid (strs_of_row hrw hle.symm)
    have HWh := Lib.hid hwh
    have HRs : Hid (W.ownsRow W1.heap.size 9 1 (.slice eo 18 ec) 18 (strC (Sgn.sigV sec idx msg))) := Lib.hid hrw
    have HKd := Lib.hid hK
    have HBW := Lib.hid hB
    have HTree := Lib.hid (tree_any sec hs h hh W (HT.out.below HWB.out))
    clear hwh hrw hys hle hB hK HI0 HWe
    gi_wp2_with fail
    refine ⟨trivial, ?_⟩
    refine (callsIn_wide.2 HTree.out).mono ?_
    rintro e W3 ⟨g, cap, rfl, hcap, hb3, hT⟩
    have hcap' : (h : Int) ≤ cap := by omega
    have hcap2 : h ≤ cap := by omega
    have HB3 := Lib.hid hb3
    have HIs := Lib.hid hT
    clear hb3 hT
    gi_wp2_with fail
    obtain ⟨B, HBq⟩ : ∃ x, Hid (x = W1.heap.size) := ⟨_, Lib.hid rfl⟩
    rw [← HBq.out] at HWh ⊢
    have hBW : B < W.heap.size := HWh.out.lt
    have HWh3 : Hid (Whole W3 B 24 #[.int .i64 idx, .slice eo 18 ec, .slice none 0 0]) := Lib.hid ((HB3.out.block B hBW).trans HWh.out)
    have hBW3 : B < W3.heap.size := HWh3.out.lt
    have hi1b : w.heap.size + 1 < B := by rw [HBq.out]; omega
    have t1 : W3.cell? ⟨w.heap.size + 1, 0, none⟩ = some (.int .i64 idx) := by rw [HB3.out.cell (p := ⟨w.heap.size + 1, 0, none⟩) (by show w.heap.size + 1 < _; omega)]; exact s1
    have hgB : g ≠ B := by
      rintro rfl
      obtain ⟨vo, vc, hc, _⟩ := HIs.out.levs 0 (by omega)
      rw [HWh3.out.cell 0] at hc
      cases hc
    gi_loopw [52] (fun i wr => ∃ n : Nat, n ≤ h ∧ i = .int .i64 n ∧ ∃ vo vc, Hid (Whole wr B 24 #[.int .i64 idx, .slice eo 18 ec, .slice vo n vc]) ∧ Hid (wr.ownsRow W3.heap.size 9 1 (.slice vo n vc) n (strC (pathUp sec h idx n))) ∧ Hid (Only (fun b => b = B) W3 wr)) (fun i _ => h - (intOf i).toNat)
    case atStart => exact ⟨0, by omega, rfl, none, 0, HWh3, Lib.hid (World.ownsRow_nil _ _ _ _), Lib.hid (Only.refl _ _)⟩
    case round =>
      obtain ⟨n, hn, rfl, vo, vc, HWc, HRow, HOn⟩ := hrel
      have u2 : wr.cell? ⟨B, 2, none⟩ = some (.slice vo n vc) := HWc.out.cell 2
      have u1 : wr.cell? ⟨w.heap.size + 1, 0, none⟩ = some (.int .i64 idx) := HOn.out.cell t1 (by show ¬ w.heap.size + 1 = B; omega)
      by_cases hlt : n < h
      · have hlt' : (n : Int) < h := by omega
        obtain ⟨lo, lc, hcell, hst⟩ := HIs.out.levs n (by omega)
        obtain ⟨M, HM⟩ : ∃ x, Hid (x = (Sgn.level sec h n).length) := ⟨_, Lib.hid rfl⟩
        rw [← HM.out] at hcell
        have hdv := Sgn.div_lt idx h n (by rw [← HN.out]; exact hidx) (by omega)
        obtain ⟨x, Hx⟩ : ∃ x, Hid (x = (idx / 2 ^ n) ^^^ 1) := ⟨_, Lib.hid rfl⟩
        have hxM : x < M := by
          rw [HM.out, Sgn.level_len sec h n (by omega), Hx.out]
          exact Sgn.xor_lt _ _ (by omega) (by omega) hdv
        have hxM' : (x : Int) < M := by omega
        have hx0 : (0 : Int) ≤ (x : Int) := by omega
        have hxb : bits BinOp.xor IntKind.i64 ((idx : Int) / 2 ^ n) 1 = (x : Int) := by rw [Hx.out]; exact xor_at idx n (by omega)
        obtain ⟨bl, ol, rfl, hbl, hcl⟩ := strs_at hst (k := x) (by rw [← HM.out]; exact hxM)
        obtain ⟨sb, Hsb⟩ : ∃ y, Hid (y = Sgn.at_ (Sgn.level sec h n) x) := ⟨_, Lib.hid rfl⟩
        have hxl : x < (Sgn.level sec h n).length := by rw [← HM.out]; exact hxM
        have hcx : W3.cell? ⟨bl, ol + x, none⟩ = some (.string sb) := by rw [hcl x hxl, Hsb.out, Sgn.at_get hxl]
        have hblB : bl ≠ B := by
          rintro rfl
          rw [HWh3.out.cell (ol + x)] at hcx
          have : ∀ k : Nat, (#[Value.int .i64 idx, .slice eo 18 ec, .slice none 0 0] : Array Value)[k]? ≠ some (Value.string sb) := by
            intro k hk
            rcases k with _ | _ | _ | k <;> simp at hk
          exact this _ hcx
        have u3 : wr.cell? ⟨bl, ol + x, none⟩ = some (.string sb) := HOn.out.cell hcx hblB
        have u4 : wr.cell? ⟨g, n, none⟩ = some (.slice (some ⟨bl, ol, none⟩) M lc) := HOn.out.cell hcell hgB
        have e1 : ∀ X : Grown wr, X.w.cell? ⟨B, 2, none⟩ = some (.slice vo n vc) := fun X => (X.cell (lt_of_cell u2)).trans u2
        have e2 : ∀ X : Grown wr, X.w.cell? ⟨w.heap.size + 1, 0, none⟩ = some (.int .i64 idx) := fun X => (X.cell (lt_of_cell u1)).trans u1
        have e3 : ∀ X : Grown wr, X.w.cell? ⟨bl, ol + x, none⟩ = some (.string sb) := fun X => (X.cell (lt_of_cell u3)).trans u3
        have hn8 : (n : Int) < 8 := by omega
        clear hcl hst hcell hcx hdv
        gi_wp2_with fail
        refine wpIn_region_calm [0, 1, 2, 3, 4, 5, 6, 7, 8] [9, 10, 11, 12] [10, 11, 12] (fun w' => ∃ X : Grown wr, w' = X.w) (by kernel_rfl) (by kernel_rfl) rfl (by kernel_rfl) (by kernel_rfl) ⟨⟨wr.drew, (Below.refl _ _).drew⟩, rfl⟩ ?_
        simp only [List.filterMap_cons, List.filterMap_nil, List.getElem?_toArray, List.getElem?_cons_zero, List.getElem?_cons_succ]
        refine (show wpQuiet _ _ _ _ (_ :: _ :: _ :: _ :: _ :: _ :: _ :: _ :: _ :: []) _ from ?_)
        repeat (go_big_quiet_step (fail))
        refine wpQuiet_nil ?_
        have HR1 : Hid (wr.drew.ownsRow W3.heap.size 9 1 (.slice vo n vc) n (strC (pathUp sec h idx n))) := Lib.hid HRow.out
        have HW1' : Hid (Whole wr.drew B 24 #[.int .i64 idx, .slice eo 18 ec, .slice vo n vc]) := Lib.hid HWc.out
        have HNw := Lib.hid (newStr wr.drew sb)
        refine wpTail_cons rfl rfl fun K hK => ?_
        go_simp
        refine hK _ _ (fun _ => ⟨⟨wr.drew.alloc (.cells #[.string sb] 9), (Below.refl _ _).drew.alloc (Nat.le_refl _) _⟩, rfl⟩) ?_
        clear hK K
        refine wpTail_cons rfl rfl fun K hK => ?_
        refine wpIn_append_lies _ (.tmp 58) (.tmp 66) 22 rfl W3.heap.size 9 i1 (.string ⟨#[]⟩) 1 16 Tryd.underlying22 hi1 hy0 hy1 hy2 rfl (by decide) (.slice vo n vc) n (strC (pathUp sec h idx n)) (by simp [Act.eval]) (HR1.out.alloc _) ⟨wr.drew.heap.size, 0, none⟩ 1 1 [.string sb] (by simp [Act.eval]) rfl HNw.out (by simp [Value.oneCell']) (by decide) (by unfold maxLen; omega) (by omega) (by show W3.heap.size ≤ (wr.alloc _).heap.size; rw [size_alloc]; have := HOn.out.size; omega) ?_
        intro g' cap' w10 hown hgrow _ _
        refine hK _ _ (fun h => absurd h (by decide)) ?_
        clear hK K
        have hne : (Value.slice vo n vc).ownBlock ≠ some B := owns_ne' HR1.out HW1'.out (by decide)
        have HC10 : Hid (Whole w10 B 24 #[.int .i64 idx, .slice eo 18 ec, .slice vo n vc]) := Lib.hid ((hgrow.block B (by show B < (wr.alloc _).heap.size; rw [size_alloc]; have := HWc.out.lt; omega) (fun hh => hne hh.symm)).trans (HW1'.out.alloc _))
        have y1 : w10.cell? ⟨B, 2, none⟩ = some (.slice vo n vc) := HC10.out.cell 2
        have y2 := HC10.out.frozen 2
        have HO := Lib.hid hown
        have HOn10 : Hid (Only (fun b => b = B) W3 w10) := Lib.hid ((HOn.out.drew.alloc _).next (G := fun b => (Value.slice vo n vc).ownBlock = some b) (Only.of_grown hgrow fun k e => e) (fun b hb => Or.inr (HR1.out.lt b hb).1))
        clear hown hgrow e1 e2 e3 u1 u2 u3 u4
        refine wpTail_cons rfl rfl fun K hK => ?_
        go_simp
        refine hK _ _ (fun h => absurd h (by decide)) ?_
        clear hK K
        refine wpTail_cons rfl rfl fun K hK => ?_
        go_simp
        refine hK _ _ (fun h => absurd h (by decide)) ?_
        clear hK K
        refine wpTail_calm ?_
        gi_wp2_with fail
        go_roundw
        case rel =>
          refine ⟨n + 1, by omega, by go_num, some ⟨g', 0, none⟩, cap', Lib.hid (HC10.out.set 2 _), Lib.hid ?_, Lib.hid (HOn10.out.setCell (Or.inl rfl) _)⟩
          have hne2 : (Value.slice (some ⟨g', 0, none⟩) (n + 1) cap').ownBlock ≠ some B := owns_ne' HO.out HC10.out (by decide)
          have e : strC (pathUp sec h idx (n + 1)) = strC (pathUp sec h idx n) ++ [.string sb] := by rw [pathUp_succ, strC_snoc, Hsb.out, Hx.out]
          rw [e]
          exact HO.out.kept (row := some B) ⟨rfl, rfl, rfl, by simp, fun j _ hj => Below.heap_setCell _ _ _ _ (fun e => hj (by rw [e]))⟩ (Or.inr hne2)
        case measure => simp [intOf]; omega
      · obtain rfl : n = h := by omega
        have u0 : wr.cell? ⟨B, 0, none⟩ = some (.int .i64 idx) := HWc.out.cell 0
        have u1' : wr.cell? ⟨B, 1, none⟩ = some (.slice eo 18 ec) := HWc.out.cell 1
        obtain ⟨R, HRq⟩ : ∃ x, Hid (x = w.heap.size + 1 + 1) := ⟨_, Lib.hid rfl⟩
        have hRB : R < B := by rw [HRq.out, HBq.out]; omega
        have hRW0 : R < W0.heap.size := by rw [HRq.out]; omega
        have HWR : Hid (Whole wr R 24 #[.int .i64 0, .slice none 0 0, .slice none 0 0]) := Lib.hid (by
          have h1 := HWr.out
          rw [← HRq.out] at h1
          have h2 := (HB1.out.block R hRW0).trans h1
          have h3 := (HB2.out.block R (by rw [← HBq.out]; exact hRB)).trans h2
          have h4 := (HBW.out.block R (by rw [← HBq.out]; exact hRB)).trans h3
          have h5 := (HB3.out.block R (by omega)).trans h4
          exact HOn.out.whole h5 (by omega))
        have c0 : wr.cell? ⟨R, 0, none⟩ = some (.int .i64 0) := HWR.out.cell 0
        have c1 : wr.cell? ⟨R, 1, none⟩ = some (.slice none 0 0) := HWR.out.cell 1
        have c2 : wr.cell? ⟨R, 2, none⟩ = some (.slice none 0 0) := HWR.out.cell 2
        have f0 := HWR.out.frozen 0
        have f1 := HWR.out.frozen 1
        have f2 := HWR.out.frozen 2
        rw [← HRq.out]
        gi_wp2_with fail
        have HO5 : Hid (Only (fun b => b = R) wr (((wr.setCell ⟨R, 0, none⟩ (.int .i64 idx)).setCell ⟨R, 1, none⟩ (.slice eo 18 ec)).setCell ⟨R, 2, none⟩ (.slice vo n vc))) := Lib.hid ((((Only.refl (fun b => b = R) wr).setCell (p := ⟨R, 0, none⟩) (Or.inl rfl) _).setCell (p := ⟨R, 1, none⟩) (Or.inl rfl) _).setCell (p := ⟨R, 2, none⟩) (Or.inl rfl) _)
        have HWe : Hid (Whole (((wr.setCell ⟨R, 0, none⟩ (.int .i64 idx)).setCell ⟨R, 1, none⟩ (.slice eo 18 ec)).setCell ⟨R, 2, none⟩ (.slice vo n vc)) R 24 #[.int .i64 idx, .slice eo 18 ec, .slice vo n vc]) := Lib.hid (((HWR.out.set 0 _).set 1 _).set 2 _)
        generalize (((wr.setCell ⟨R, 0, none⟩ (.int .i64 idx)).setCell ⟨R, 1, none⟩ (.slice eo 18 ec)).setCell ⟨R, 2, none⟩ (.slice vo n vc)) = W5 at HWe HO5 ⊢
        have HDB : Hid (wr.heap[D]? = some (.deferred (some []))) := Lib.hid (by
          have hDW : D < W.heap.size := (Array.getElem?_eq_some_iff.1 HKd.out).1
          have h3 := (HB3.out.block D hDW).trans HKd.out
          have hne : D ≠ B := by
            rintro rfl
            have h4 : W3.heap[D]? = some (.cells _ _ _) := HWh3.out
            rw [h3] at h4
            cases h4
          exact (HOn.out.block D (by have := HB3.out.size; omega) hne).trans h3)
        have hDR : D ≠ R := by
          rintro rfl
          have h4 : wr.heap[D]? = some (.cells _ _ _) := HWR.out
          rw [HDB.out] at h4
          cases h4
        have HD5 : Hid (W5.heap[D]? = some (.deferred (some []))) := Lib.hid ((HO5.out.block D (Array.getElem?_eq_some_iff.1 HDB.out).1 hDR).trans HDB.out)
        have HOD : Hid (∀ o', Only (fun b => b = D) W5 (W5.putObj D o')) := Lib.hid fun o' => by
          have hb := belowK_b (n₀ := 0) (w := w) (Nat.zero_le _) W5 D _ o' (by omega) HD5.out rfl rfl
          exact ⟨hb.os, hb.tape, hb.output, hb.size, fun k _ hne => World.putObj_heap_other hne⟩
        have HSg : Hid (∀ o', (W5.putObj D o').ownsRow W1.heap.size 9 1 (.slice eo 18 ec) 18 (strC (Sgn.sigV sec idx msg))) := Lib.hid fun o' => by
          have h1 := owns_grown HRs.out HB3.out
          have hge : ∀ b, (Value.slice eo 18 ec).ownBlock = some b → B ≤ b := fun b e => by rw [HBq.out]; exact (HRs.out.lt b e).1
          have h2 := owns_only h1 HOn.out (fun b e => by rintro rfl; exact owns_ne' h1 HWh3.out (by decide) e)
          have h3 := owns_only h2 HO5.out (fun b e => by have := hge b e; show ¬ b = R; omega)
          exact owns_only h3 (HOD.out o') (fun b e => by rintro rfl; exact owns_cells' h3 e HD5.out)
        have HPt : Hid (∀ o', (W5.putObj D o').ownsRow W3.heap.size 9 1 (.slice vo n vc) n (strC (pathUp sec n idx n))) := Lib.hid fun o' => by
          have h3 := owns_only HRow.out HO5.out (fun b e => by have := (HRow.out.lt b e).1; show ¬ b = R; omega)
          exact owns_only h3 (HOD.out o') (fun b e => by rintro rfl; exact owns_cells' h3 e HD5.out)
        have HBe : Hid (∀ o', Below w.heap.size w (W5.putObj D o')) := Lib.hid fun o' => by
          have h1 : Only (fun b => B ≤ b ∨ b = R ∨ b = D) W3 (W5.putObj D o') := ((HOn.out.mono (fun b hb => Or.inl (by omega))).next HO5.out (fun b hb => Or.inl (Or.inr (Or.inl hb)))).next (HOD.out o') (fun b hb => Or.inl (Or.inr (Or.inr hb)))
          have h2 := HWB.out.size
          have h3 := HB3.out.size
          exact (HWB.out.trans (HB3.out.mono h2)).trans (h1.below (B := w.heap.size) (by omega) (fun b hb => by
            have := HRq.out
            rcases hb with hb | hb | hb <;> omega))
        have HWd : Hid (∀ o', Whole (W5.putObj D o') R 24 #[.int .i64 idx, .slice eo 18 ec, .slice vo n vc]) := Lib.hid fun o' => (HOD.out o').whole HWe.out (fun e => hDR e.symm)
        refine ⟨by simp, .inl ⟨_, _, rfl, run_takeDeferred HD5.out, ?_⟩⟩
        have HSg' := Lib.hid (HSg.out (.deferred none))
        have HPt' := Lib.hid (HPt.out (.deferred none))
        have HBe' := Lib.hid (HBe.out (.deferred none))
        have HWd' := Lib.hid (HWd.out (.deferred none))
        generalize W5.putObj D (.deferred none) = W6 at HSg' HPt' HBe' HWd' ⊢
        have d0 : W6.cell? ⟨R, 0, none⟩ = some (.int .i64 idx) := HWd'.out.cell 0
        have d1 : W6.cell? ⟨R, 1, none⟩ = some (.slice eo 18 ec) := HWd'.out.cell 1
        have d2 : W6.cell? ⟨R, 2, none⟩ = some (.slice vo n vc) := HWd'.out.cell 2
        refine ⟨.tuple #[.agg #[.int .i64 idx, .slice eo 18 ec, .slice vo n vc], .int .i64 0], by simp [results, Tryd.f15, go_sem, d0, d1, d2], ⟨eo, vo, ec, vc, rfl, strs_of_row HSg'.out (by simp [Sgn.sigV]), strs_of_row (l := pathUp sec n idx n) HPt'.out (by simp [pathUp]), owns_cap' HSg'.out, owns_cap' HPt'.out⟩, HBe'.out⟩

end Go.Proofs.YtfnbdjjobndgfaaDoor
