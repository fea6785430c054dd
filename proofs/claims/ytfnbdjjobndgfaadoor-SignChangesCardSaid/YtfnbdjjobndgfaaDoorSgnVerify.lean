/- The walk of sign.Verify. -/
import Derived.Test.YtfnbdjjobndgfaaDoorSgnSeq
import Derived.Test.YtfnbdjjobndgfaaDoorSgnTree
import Derived.Test.YtfnbdjjobndgfaaDoorHeldIn
import Derived.Test.YtfnbdjjobndgfaaDoorOpenSl
import Derived.BigQuiet
import Derived.Deep.QuietTactic
namespace Go.Proofs.YtfnbdjjobndgfaaDoor
open Go.RowKit Go.Shelf

attribute [local go_sem] Oper.semAt_some

def encD (m : ByteArray) (q : Fin 18) : Int × Int := ((q.val : Int), (Sgn.dAt m q.val : Int))
def upFin (k : Nat) : List (Fin 18) := (List.finRange 18).take k
theorem enc_upFin (m : ByteArray) (k : Nat) (h : k ≤ 18) : (upFin k).map (encD m) = dpairs m k := by
  unfold upFin dpairs
  refine List.ext_getElem (by simp; omega) fun i h1 h2 => ?_
  simp [encD]
theorem digits_stops (n : Nat) (hn : 1 ≤ n) (m : ByteArray) (hm : m.size ≤ 140737488351232) (Bs : Nat) (w : World) (hc : w.cell? ⟨Bs, 0, none⟩ = some (.string m)) :
    SeqStopsK Fence.wide n Tryd.prog 51 #[.pointer (some ⟨Bs, 0, none⟩)] (fun q : Fin 18 => #[Value.int .i64 (q.val : Int), Value.int .i64 (Sgn.dAt m q.val : Int)]) (fun _ _ => True) (fun ys => ys.map (encD m) = dpairs m 18)
      (fun _ => True) 18 w := fun l J Jx W hW hJ _ hY h0 => by
  refine (digits1_in n hn l Bs m hm (fun pre W => ∃ pre', pre = pre'.map (encD m) ∧ J pre' W) (fun pre W => ∃ pre', pre = pre'.map (encD m) ∧ Jx pre' W) (fun _ _ => True) ?_
    ?_ W ((hW.cell (p := ⟨Bs, 0, none⟩) (lt_of_cell hc)).trans hc) ⟨[], rfl, h0⟩).mono ?_
  · rintro pre x W1 ⟨pre', rfl, h1⟩ hlt hx
    rw [List.length_map] at hlt hx
    obtain ⟨fn, tmps, assign, body, hy, hR⟩ := hY pre' ⟨pre'.length, hlt⟩ W1 h1 hlt
    subst hx
    refine ⟨fn, tmps, assign, body, hy, hR.mono fun e W' h => ?_⟩
    rcases h with ⟨rfl, h2, _⟩ | ⟨rfl, h2⟩
    · exact Or.inl ⟨rfl, ⟨_, by rw [List.map_append]; rfl, h2⟩, trivial⟩
    · exact Or.inr ⟨rfl, ⟨_, by rw [List.map_append]; rfl, h2⟩⟩
  · rintro W1 W2 ⟨pre', h1, h2⟩ hb
    exact ⟨pre', h1, hJ pre' W1 W2 none h2 ⟨hb.os, hb.tape, hb.output, hb.size, fun k hk _ => hb.block k hk⟩ (fun r e => by cases e)⟩
  · rintro e W' ⟨hv, h | h⟩
    · obtain ⟨ys, rfl, pre', h1, h2⟩ := h
      exact ⟨hv, Or.inl ⟨pre', h1.symm, h2⟩⟩
    · obtain ⟨pre, _, pre', _, h2⟩ := h
      exact ⟨hv, Or.inr ⟨pre', trivial, h2⟩⟩

theorem block_kept {A B : World} {g : Nat} {cs : Array Value} {t : TypeId} {fz : Nat × Nat} {row : Option Nat} (h : A.heap[g]? = some (.cells cs t fz)) (hg : A.grownBy B row) (hr : ∀ r, row = some r → ∃ o : Obj, A.heap[r]? = some o ∧ o.isCells = false) : B.heap[g]? = A.heap[g]? := by
  refine hg.block g (Array.getElem?_eq_some_iff.1 h).1 fun e => ?_
  obtain ⟨o, ho, hc⟩ := hr g e.symm
  rw [h] at ho
  obtain rfl := (Option.some.inj ho).symm
  cases hc
theorem owns_kept' {A B : World} {base : Nat} {e : TypeId} {size : Nat} {v : Value} {n : Nat} {xs : List Value} {row : Option Nat} (h : A.ownsRow base e size v n xs) (hg : A.grownBy B row) (hr : ∀ r, row = some r → ∃ o : Obj, A.heap[r]? = some o ∧ o.isCells = false) : B.ownsRow base e size v n xs := by
  rcases h with ⟨h1, h2 | ⟨g', cap, cur, rfl, hB, hc, rest⟩⟩
  · exact ⟨h1, Or.inl h2⟩
  · exact ⟨h1, Or.inr ⟨g', cap, cur, rfl, hB, (block_kept hc hg hr).trans hc, rest⟩⟩
theorem whole_kept {A B : World} {g : Nat} {cs : Array Value} {t : TypeId} {row : Option Nat} (h : Whole A g t cs) (hg : A.grownBy B row) (hr : ∀ r, row = some r → ∃ o : Obj, A.heap[r]? = some o ∧ o.isCells = false) : Whole B g t cs :=
  (block_kept h hg hr).trans h

theorem keepsFrom_below {B : Nat} {W W' : World} (h : Below W.heap.size W W') : KeepsFrom B W W' :=
  ⟨h.size, fun k _ _ hk _ => (h.block k (Array.getElem?_eq_some_iff.1 hk).1).trans hk⟩
theorem owns_cells {w : World} {base : Nat} {e : TypeId} {size : Nat} {v : Value} {n : Nat} {xs : List Value} (h : w.ownsRow base e size v n xs) (j : Nat) (o : Obj) (hv : v.ownBlock = some j) (ho : w.heap[j]? = some o) : o.isCells = true := by
  rcases h.2 with ⟨rfl, _⟩ | ⟨g', cap, cur, rfl, _, hc, _⟩
  · simp [Value.ownBlock] at hv
  · have e1 : g' = j := by simpa [Value.ownBlock] using hv
    subst e1
    rw [hc] at ho
    obtain rfl := (Option.some.inj ho).symm
    rfl
/-- The end of a chain. -/
def endAt (m : ByteArray) (sig : List ByteArray) (q : Fin 18) : ByteArray := Sgn.chainV (15 - Sgn.dAt m q.val) (Sgn.at_ sig q.val)
theorem encD_inj (m : ByteArray) : ∀ {a b : List (Fin 18)}, a.map (encD m) = b.map (encD m) → a = b
  | [], [], _ => rfl
  | [], _ :: _, h => by cases h
  | _ :: _, [], h => by cases h
  | a :: ta, b :: tb, h => by
    simp only [List.map_cons, List.cons.injEq] at h
    have h1 : (a.val : Int) = b.val := congrArg Prod.fst h.1
    rw [Fin.ext (by omega : a.val = b.val), encD_inj m h.2]
theorem ends_of (m : ByteArray) (sig : List ByteArray) {ys : List (Fin 18)} (h : ys.map (encD m) = dpairs m 18) : ys.map (endAt m sig) = Sgn.endsOf m sig := by
  rw [← enc_upFin m 18 (Nat.le_refl _)] at h
  rw [encD_inj m h]
  unfold upFin Sgn.endsOf
  refine List.ext_getElem (by simp) fun i h1 h2 => ?_
  simp [endAt]
/-- What holds between two rounds over the digits. -/
def EndsI (m : ByteArray) (sig : List ByteArray) (B ge : Nat) (pre : List (Fin 18)) (W : World) : Prop :=
  ∃ eo ec, Whole W ge 22 #[.slice eo pre.length ec] ∧ W.ownsRow B 9 1 (.slice eo pre.length ec) pre.length (strC (pre.map (endAt m sig)))

theorem bit_at (n k : Nat) (h : n ≤ 256) : bits BinOp.and IntKind.i64 ((n : Int) / 2 ^ k) 1 = ((n / 2 ^ k % 2 : Nat) : Int) := by
  have h1 : ∀ q : Fin 257, bits BinOp.and IntKind.i64 ((q.val : Nat) : Int) 1 = ((q.val % 2 : Nat) : Int) := by decide +kernel
  have h2 : (n : Int) / 2 ^ k = ((n / 2 ^ k : Nat) : Int) := by push_cast; rfl
  rw [h2]
  exact h1 ⟨n / 2 ^ k, by have := Nat.div_le_self n (2 ^ k); omega⟩

set_option maxRecDepth 100000 in
set_option maxHeartbeats 8000000 in
theorem verify_good (pub msg : ByteArray) (hm : msg.size ≤ 140737488351232) (idx : Nat) (so po : Option Addr) (c1 c2 : Nat) (sig path : List ByteArray) (h1 : sig.length = 18) (h2 : path.length ≤ 8)
    (h3 : (sig.all fun s => Dig.isB s.data.toList) = true) (h4 : (path.all fun s => Dig.isB s.data.toList) = true) (h5 : idx < 2 ^ path.length) (w : World) (ht : Tab w) (hsg : IsStrs w so sig) (hpt : IsStrs w po path) :
    CallsIn Fence.wide 6 Tryd.prog 18 #[.string pub, .string msg, .agg #[.int .i64 idx, .slice so 18 c1, .slice po path.length c2]] w
      fun e w' => e = .returned (.bool (decide (Sgn.rootOf msg idx sig path = pub))) ∧ Below w.heap.size w w' := by
  have hro : Fence.wide.round = none := rfl
  have hone : 1 ≤ 6 := by omega
  have HT := Lib.hid ht
  have Hsg := Lib.hid hsg
  have Hpt := Lib.hid hpt
  have hz : ∀ {l : List ByteArray}, (l.all fun s => Dig.isB s.data.toList) = true → ∀ s ∈ l, s.size = 16 := fun h s hs => (Sgn.isB_parts (List.all_eq_true.1 h s hs)).1
  have Hz1 := Lib.hid (hz h3)
  have Hz2 := Lib.hid (hz h4)
  have HA1 : Hid (∀ w', Below w.heap.size w w' → Calls Tryd.prog 38 #[.slice so 18 c1] w' fun e w2 => e = .returned (.bool true) ∧ w' = w2) := Lib.hid fun w' hb => by
    have := areDigests_any so sig c1 (by omega) (fun s hs => by rw [hz h3 s hs]; decide) w' (hsg.below hb)
    rw [h3, h1] at this
    exact this
  obtain ⟨p, Hp⟩ : ∃ p, Hid (p = path.length) := ⟨_, Lib.hid rfl⟩
  have HA2 : Hid (∀ w', Below w.heap.size w w' → Calls Tryd.prog 38 #[.slice po p c2] w' fun e w2 => e = .returned (.bool true) ∧ w' = w2) := Lib.hid fun w' hb => by
    have := areDigests_any po path c2 (by omega) (fun s hs => by rw [hz h4 s hs]; decide) w' (hpt.below hb)
    rw [h4, ← Hp.out] at this
    exact this
  rw [← Hp.out] at h2 h5 ⊢
  obtain ⟨N, HN⟩ : ∃ N, Hid (N = 2 ^ p) := ⟨_, Lib.hid rfl⟩
  have hN : wrap64 ((2 : Int) ^ p) = (N : Int) := by rw [HN.out]; exact wrap_pow p h2
  have hidx : (idx : Int) < N := by rw [HN.out]; omega
  have hN2 : N ≤ 256 := by rw [HN.out]; exact Nat.pow_le_pow_right (by decide) h2
  have hp8 : (p : Int) ≤ 8 := by omega
  have hix : decide ((N : Int) ≤ idx) = false := decide_eq_false (by omega)
  have hixn : decide (N ≤ idx) = false := decide_eq_false (by omega)
  have hix0 : decide ((idx : Int) < 0) = false := decide_eq_false (by omega)
  have hg8 : decide ((8 : Int) < p) = false := decide_eq_false (by omega)
  obtain ⟨i1, hi1, hy0, hy1, hy2⟩ := info_parts info_str
  clear h3 h4 h5 hz ht hsg hpt
  refine callsIn_of_wp_marks Tryd.func18 rfl trivial ?_ hro
  simp only [Tryd.ntmps18, List.size_toArray, List.length_cons, List.length_nil, Nat.reduceAdd, Nat.reduceSub, Array.replicate_succ, Array.replicate_zero, List.push_toArray, List.append_toArray, List.nil_append, List.cons_append]
  gi_wp2_with fail
  refine ⟨trivial, ?_⟩
  refine (callsIn_wide.2 (HA1.out _ ((Below.refl _ _).alloc (Nat.le_refl _) _))).mono ?_
  rintro e w1 ⟨rfl, rfl⟩
  gi_wp2_with fail
  refine ⟨trivial, ?_⟩
  refine (callsIn_wide.2 (HA2.out _ ((Below.refl _ _).alloc (Nat.le_refl _) _))).mono ?_
  rintro e w1 ⟨rfl, rfl⟩
  gi_wp2_with fail
  obtain ⟨W0, HW0⟩ : ∃ x, Hid (x = w.alloc (.cells #[.int .i64 idx, .slice so 18 c1, .slice po p c2] 24)) := ⟨_, Lib.hid rfl⟩
  have y0 : W0.cell? ⟨w.heap.size, 0, none⟩ = some (.int .i64 idx) := by rw [HW0.out, cell_alloc, if_pos rfl]; rfl
  have y1 : W0.cell? ⟨w.heap.size, 1, none⟩ = some (.slice so 18 c1) := by rw [HW0.out, cell_alloc, if_pos rfl]; rfl
  have y2 : W0.cell? ⟨w.heap.size, 2, none⟩ = some (.slice po p c2) := by rw [HW0.out, cell_alloc, if_pos rfl]; rfl
  have HB0 : Hid (Below w.heap.size w W0) := Lib.hid (by rw [HW0.out]; exact (Below.refl _ _).alloc (Nat.le_refl _) _)
  have hz0 : w.heap.size < W0.heap.size := lt_of_cell y0
  rw [← HW0.out]
  refine wpIn_wide.2 ?_
  go_quiet (fail)
  obtain ⟨W1, HW1⟩ : ∃ x, Hid (x = W0.drewN nq) := ⟨_, Lib.hid rfl⟩
  have z0 : W1.cell? ⟨w.heap.size, 0, none⟩ = some (.int .i64 idx) := by rw [HW1.out]; exact y0
  have z1 : W1.cell? ⟨w.heap.size, 1, none⟩ = some (.slice so 18 c1) := by rw [HW1.out]; exact y1
  have z2 : W1.cell? ⟨w.heap.size, 2, none⟩ = some (.slice po p c2) := by rw [HW1.out]; exact y2
  have HB1 : Hid (Below w.heap.size w W1) := Lib.hid (by rw [HW1.out]; exact below_drewN HB0.out nq)
  rw [← HW1.out]
  clear y0 y1 y2 hz0
  gi_wp2_with fail
  refine ⟨trivial, ?_⟩
  refine (sdigits_any 5 msg _).mono ?_
  rintro e w2 ⟨rfl, rfl⟩
  gi_wp2_with fail
  obtain ⟨W2, HW2⟩ : ∃ x, Hid (x = (W1.alloc (.cells #[.slice none 0 0] 22)).alloc (.cells #[.string msg] 9)) := ⟨_, Lib.hid rfl⟩
  have hz2 : W2.heap.size = W1.heap.size + 1 + 1 := by rw [HW2.out]; simp
  have hBox : W2.cell? ⟨W1.heap.size + 1, 0, none⟩ = some (.string msg) := by rw [HW2.out, cell_alloc, size_alloc, if_pos rfl]; rfl
  have HWe : Hid (Whole W2 W1.heap.size 22 #[.slice none 0 0]) := Lib.hid (by rw [HW2.out]; exact (Whole.new _ _ _).alloc _)
  have HB2 : Hid (Below W1.heap.size W1 W2) := Lib.hid (by rw [HW2.out]; exact ((Below.refl _ _).alloc (Nat.le_refl _) _).alloc (by rw [size_alloc]; omega) _)
  have hz1 : w.heap.size < W1.heap.size := lt_of_cell z0
  rw [← HW2.out]
  have HI0 : Hid (EndsI msg sig W1.heap.size W1.heap.size [] W2 ∧ Below W1.heap.size W2 W2) := Lib.hid ⟨⟨none, 0, HWe.out, World.ownsRow_nil _ _ _ _⟩, Below.refl _ _⟩
  refine wpIn_rangeFunc_ownG hro hone (gf := 51) (lb := #[.pointer (some ⟨W1.heap.size + 1, 0, none⟩)]) rfl trivial (enters_of Tryd.func51 (by kernel_rfl) rfl)
    (digits_stops 5 (by omega) msg hm (W1.heap.size + 1) W2 hBox) (fun _ _ => trivial) (fun _ _ _ _ _ _ _ _ => trivial) (Below.refl _ _) (fun _ => rfl)
    (fun pre W => EndsI msg sig W1.heap.size W1.heap.size pre W ∧ Below W1.heap.size W2 W) (fun _ _ _ => False)
    (OwnFrom.and (Own.from (fun s A B row hs hg hr => by
      obtain ⟨eo, ec, h1, h2⟩ := hs
      exact ⟨eo, ec, whole_kept h1 hg hr, owns_kept' h2 hg hr⟩) _) (ownFrom_below (by omega) (by omega)))
    (fun _ _ _ _ _ h _ _ => h.elim) HI0.out ?act ?assign ?body ?done ?stop
  case assign =>
    intro l' x W K hK
    gi_wp2
    exact hK
  case body =>
    rintro l' pre x W ⟨⟨eo, ec, hwh, hrw⟩, hB⟩ hlt
    obtain ⟨q, Hq⟩ : ∃ q, Hid (q = x.val) := ⟨_, Lib.hid rfl⟩
    obtain ⟨d, Hd⟩ : ∃ d, Hid (d = Sgn.dAt msg x.val) := ⟨_, Lib.hid rfl⟩
    have hq18 : q < 18 := by rw [Hq.out]; exact x.isLt
    have hd15 : d ≤ 15 := by rw [Hd.out]; exact Sgn.dAt_le _ _
    obtain ⟨np, Hnp⟩ : ∃ n, Hid (n = pre.length) := ⟨_, Lib.hid rfl⟩
    rw [← Hnp.out] at hlt hwh hrw
    have HWh := Lib.hid hwh
    have HRw := Lib.hid hrw
    have HBw : Hid (Below w.heap.size w W) := Lib.hid (HB1.out.trans ((HB2.out.trans hB).mono (Nat.le_of_lt hz1)))
    have HBW := Lib.hid hB
    obtain ⟨bs, os, rfl, hbs, hcs⟩ := strs_at Hsg.out (k := q) (by omega)
    obtain ⟨sg, Hsg1⟩ : ∃ x, Hid (x = Sgn.at_ sig q) := ⟨_, Lib.hid rfl⟩
    have hszs : sg.size = 16 := by rw [Hsg1.out, Sgn.at_get (by omega), Hz1.out _ (List.getElem_mem _)]
    have HwW : w.heap.size < W.heap.size := by
      have := HBW.out.size
      omega
    have e1 : ∀ X : Grown W, X.w.cell? ⟨W1.heap.size, 0, none⟩ = some (.slice eo np ec) := fun X => by
      rw [X.cell HWh.out.lt]; exact HWh.out.cell 0
    have e2 : ∀ X : Grown W, X.w.cell? ⟨w.heap.size, 1, none⟩ = some (.slice (some ⟨bs, os, none⟩) 18 c1) := fun X => by
      rw [X.cell HwW, HBW.out.cell (p := ⟨w.heap.size, 1, none⟩) hz1, HB2.out.cell (p := ⟨w.heap.size, 1, none⟩) hz1]; exact z1
    have e3 : ∀ X : Grown W, X.w.cell? ⟨bs, os + q, none⟩ = some (.string sg) := fun X => by
      rw [X.cell (by omega), HBw.out.cell (p := ⟨bs, os + q, none⟩) hbs, hcs q (by omega), Hsg1.out, Sgn.at_get (by omega)]
    have hq0 : (q : Int) < 18 := by omega
    clear hwh hrw hB hcs
    rw [← Hd.out, ← Hq.out]
    gi_wp2_with fail
    refine wpIn_region_held [0, 1, 2, 3, 4, 5, 6, 7] [8, 9, 10, 11] [10, 11] (fun w' => ∃ X : Grown W, w' = X.w) (by kernel_rfl) (by kernel_rfl) rfl (by kernel_rfl) (by kernel_rfl) (fun _ _ _ _ h => h) ⟨⟨W.drew, (Below.refl _ _).drew⟩, rfl⟩ ?_
    simp only [List.filterMap_cons, List.filterMap_nil, List.getElem?_toArray, List.getElem?_cons_zero, List.getElem?_cons_succ]
    refine (show wpQuiet _ _ _ _ (_ :: _ :: _ :: _ :: _ :: _ :: _ :: _ :: []) _ from ?_)
    repeat (go_big_quiet_step (fail))
    refine wpQuiet_nil ?_
    have HCh := Lib.hid fun (X : World) => chain_any sg (by omega) (15 - d) (by omega) X
    obtain ⟨cv, Hcv⟩ : ∃ x, Hid (x = Sgn.chainV (15 - d) sg) := ⟨_, Lib.hid rfl⟩
    rw [← Hcv.out] at HCh
    have hd' : ((15 - d : Nat) : Int) = 15 - (d : Int) := by omega
    rw [hd'] at HCh
    refine wpTail_cons rfl rfl fun K hK => ?_
    go_simp
    refine ⟨trivial, ?_⟩
    refine (CallsIn.inRound l' (callsIn_wide.2 (HCh.out _))).mono ?_
    rintro e X1 ⟨rfl, hb⟩
    have HX1 : Hid (Below W.heap.size W X1) := Lib.hid (below_step (Below.refl _ _).drew hb)
    refine hK _ _ (fun _ => ⟨⟨X1, HX1.out⟩, rfl⟩) ?_
    clear hK K hb
    refine wpTail_cons rfl rfl fun K hK => ?_
    go_simp
    refine hK _ _ (fun _ => ⟨⟨X1.alloc (.cells #[.string cv] 9), HX1.out.alloc HX1.out.size _⟩, rfl⟩) ?_
    clear hK K
    have HR1 : Hid (X1.ownsRow W1.heap.size 9 1 (.slice eo np ec) np (strC (pre.map (endAt msg sig)))) := Lib.hid (owns_grown HRw.out HX1.out)
    have HW1' : Hid (Whole X1 W1.heap.size 22 #[.slice eo np ec]) := Lib.hid ((HX1.out.block _ HWh.out.lt).trans HWh.out)
    have HNw : Hid (∀ (i : Nat) (u : Value), [Value.string cv][i]? = some u → (X1.alloc (.cells #[.string cv] 9)).cell? ((⟨X1.heap.size, 0, none⟩ : Addr).add i) = some u) := Lib.hid (by
      intro i u hu
      have e : (⟨X1.heap.size, 0, none⟩ : Addr).add i = ⟨X1.heap.size, i, none⟩ := by unfold Addr.add; split <;> simp_all
      rw [e, cell_alloc, if_pos rfl]
      simpa using hu)
    have HBX : Hid (Below W1.heap.size W2 X1) := Lib.hid (HBW.out.trans (HX1.out.mono (by have := HBW.out.size; omega)))
    have hsX := HBX.out.size
    refine wpTail_cons rfl rfl fun K hK => ?_
    refine wpIn_append_lies _ (.tmp 51) (.tmp 60) 22 rfl W1.heap.size 9 i1 (.string ⟨#[]⟩) 1 16 Tryd.underlying22 hi1 hy0 hy1 hy2 rfl (by decide) (.slice eo np ec) np (strC (pre.map (endAt msg sig))) (by simp [Act.eval]) (HR1.out.alloc _) ⟨X1.heap.size, 0, none⟩ 1 1 [.string cv] (by simp [Act.eval]) rfl HNw.out (by simp [Value.oneCell']) (by decide) (by unfold maxLen; omega) (by omega) (by rw [size_alloc]; omega) ?_
    intro g' cap' w10 hown hgrow _ _
    refine hK _ _ (fun h => absurd h (by decide)) ?_
    clear hK K
    have hne : (Value.slice eo np ec).ownBlock ≠ some W1.heap.size := owns_ne' HR1.out HW1'.out (by decide)
    have HC10 : Hid (Whole w10 W1.heap.size 22 #[.slice eo np ec]) := Lib.hid ((hgrow.block W1.heap.size (by rw [size_alloc]; have := HW1'.out.lt; omega) (fun hh => hne hh.symm)).trans (HW1'.out.alloc _))
    have u1 : w10.cell? ⟨W1.heap.size, 0, none⟩ = some (.slice eo np ec) := HC10.out.cell 0
    have u2 := HC10.out.frozen 0
    have HO := Lib.hid hown
    have HG := Lib.hid hgrow
    clear hown hgrow
    refine wpTail_cons rfl rfl fun K hK => ?_
    go_simp
    refine hK _ _ (fun h => absurd h (by decide)) ?_
    refine ⟨?_, trivial, ⟨some ⟨g', 0, none⟩, cap', ?_, ?_⟩, ?_⟩
    · exact (keepsFrom_below HX1.out).trans (((KeepsOthers.alloc _ _).trans ((KeepsOthers.of_grownBy HG.out (fun j o e ho => owns_cells (HR1.out.alloc _) j o e ho)).trans (KeepsOthers.setCell _ _ _))).from _)
    · rw [List.length_append, ← Hnp.out]
      exact HC10.out.set 0 _
    · have hne2 : (Value.slice (some ⟨g', 0, none⟩) (np + 1) cap').ownBlock ≠ some W1.heap.size := owns_ne' HO.out HC10.out (by decide)
      have e : strC ((pre ++ [x]).map (endAt msg sig)) = strC (pre.map (endAt msg sig)) ++ [.string cv] := by
        rw [List.map_append, List.map_singleton, strC_snoc, Hcv.out, Hsg1.out, Hd.out, Hq.out]; rfl
      rw [e, List.length_append, ← Hnp.out]
      exact HO.out.kept (row := some W1.heap.size) ⟨rfl, rfl, rfl, by simp, fun j _ hj => Below.heap_setCell _ _ _ _ (fun e => hj (by rw [e]))⟩ (Or.inr hne2)
    · exact Below.setCell ((HBX.out.alloc (by omega) _).grown HG.out (by rw [size_alloc]; omega) (fun j e => (HR1.out.lt j e).1)) (p := ⟨W1.heap.size, 0, none⟩) (Nat.le_refl _) _
  case stop =>
    rintro D c pre W _ _ h
    exact h.elim
  case done =>
    rintro D ys W hD hys ⟨⟨eo, ec, hwh, hrw⟩, hB⟩ hK
    have hl : ys.length = 18 := by have := congrArg List.length hys; rw [List.length_map, dpairs_len] at this; exact this
    rw [hl, ends_of msg sig hys] at hrw
    rw [hl] at hwh
    have hle : (Sgn.endsOf msg sig).length = 18 := by simp [Sgn.endsOf]
    have HWB : Hid (Below w.heap.size w W) := Lib.hid (HB1.out.trans ((HB2.out.trans hB).mono (Nat.le_of_lt hz1)))
    have p0 : W.cell? ⟨W1.heap.size, 0, none⟩ = some (.slice eo 18 ec) := hwh.cell 0
    have hwW : w.heap.size < W.heap.size := by have := hB.size; omega
    have p1 : W.cell? ⟨w.heap.size, 2, none⟩ = some (.slice po p c2) := by rw [hB.cell (p := ⟨w.heap.size, 2, none⟩) hz1, HB2.out.cell (p := ⟨w.heap.size, 2, none⟩) hz1]; exact z2
    have p2 : W.cell? ⟨w.heap.size, 0, none⟩ = some (.int .i64 idx) := by rw [hB.cell (p := ⟨w.heap.size, 0, none⟩) hz1, HB2.out.cell (p := ⟨w.heap.size, 0, none⟩) hz1]; exact z0
    have HKey := Lib.hid (key_any eo (Sgn.endsOf msg sig) ec W (HT.out.below HWB.out) (strs_of_row hrw hle.symm) (fewE (fun s hs => by
      obtain ⟨q, hq, rfl⟩ := List.mem_map.1 hs
      have hq' : q < sig.length := by have := List.mem_range.1 hq; omega
      rw [chain15_size _ _ (by rw [Sgn.at_get hq']; exact Hz1.out _ (List.getElem_mem _))]; decide) (by omega)))
    rw [hle] at HKey
    obtain ⟨kv, Hkv⟩ : ∃ x, Hid (x = Sgn.lst (Sgn.endsOf msg sig)) := ⟨_, Lib.hid rfl⟩
    rw [← Hkv.out] at HKey
    have HBW := Lib.hid hB
    have HKd := Lib.hid hK
    clear hwh hrw hys hle hB hK HI0 HWe
    gi_wp2_with fail
    refine ⟨trivial, ?_⟩
    refine (callsIn_wide.2 HKey.out).mono ?_
    rintro e W3 ⟨rfl, hb3⟩
    have q1 : W3.cell? ⟨w.heap.size, 2, none⟩ = some (.slice po p c2) := by rw [hb3.cell (p := ⟨w.heap.size, 2, none⟩) hwW]; exact p1
    have q2 : W3.cell? ⟨w.heap.size, 0, none⟩ = some (.int .i64 idx) := by rw [hb3.cell (p := ⟨w.heap.size, 0, none⟩) hwW]; exact p2
    have HB3 := Lib.hid hb3
    clear hb3 p0 p1 p2
    gi_wp2_with fail
    gi_loopw [10, 67] (fun rt i wr => ∃ k : Nat, k ≤ p ∧ i = .int .i64 k ∧ ∃ r, rt = .string r ∧ Hid (r = Sgn.climbUp idx path kv k ∧ r.size = 16) ∧ Hid (Below W3.heap.size W3 wr)) (fun _ i _ => p - (intOf i).toNat)
    case atStart => exact ⟨0, by omega, rfl, kv, rfl, Lib.hid ⟨rfl, by rw [Hkv.out]; exact Sgn.lst_size _⟩, Lib.hid (Below.refl _ _)⟩
    case round =>
      obtain ⟨k, hk, rfl, r, rfl, HR, HB⟩ := hrel
      have hw3 : w.heap.size < W3.heap.size := lt_of_cell q1
      have u1 : wr.cell? ⟨w.heap.size, 0, none⟩ = some (.int .i64 idx) := by rw [HB.out.cell (p := ⟨w.heap.size, 0, none⟩) hw3]; exact q2
      have HWr : Hid (Below w.heap.size w wr) := Lib.hid ((HWB.out.trans (HB3.out.mono HWB.out.size)).trans (HB.out.mono (by have := HB3.out.size; omega)))
      by_cases hlt : k < p
      · have hlt' : (k : Int) < p := by omega
        obtain ⟨bs, os, rfl, hbs, hcs⟩ := strs_at Hpt.out (k := k) (by rw [← Hp.out]; exact hlt)
        obtain ⟨ot, Hot⟩ : ∃ x, Hid (x = Sgn.at_ path k) := ⟨_, Lib.hid rfl⟩
        have hkp : k < path.length := by rw [← Hp.out]; exact hlt
        have hszo : ot.size = 16 := by rw [Hot.out, Sgn.at_get hkp, Hz2.out _ (List.getElem_mem _)]
        have u2 : wr.cell? ⟨bs, os + k, none⟩ = some (.string ot) := by rw [HWr.out.cell (p := ⟨bs, os + k, none⟩) hbs, hcs k hkp, Hot.out, Sgn.at_get hkp]
        have hk8 : (k : Int) < 8 := by omega
        have hk9 : k < 8 := by omega
        have hxb := bit_at idx k (by omega)
        have HTr : Hid (Tab wr) := Lib.hid (HT.out.below HWr.out)
        clear hcs q1 q2
        by_cases hbt : idx / 2 ^ k % 2 = 1
        · have HUp : Hid (Sgn.climbUp idx path kv (k + 1) = Sgn.nodeV ot r) := Lib.hid (by
            show (if idx / 2 ^ k % 2 = 1 then _ else _) = _
            rw [if_pos hbt, Hot.out, HR.out.1])
          have hb1 : (bits BinOp.and IntKind.i64 ((idx : Int) / 2 ^ k) 1 == 1) = true := by rw [hxb, hbt]; rfl
          have HN1 := Lib.hid (node_any ot r (by omega) (by rw [HR.out.2]; decide) wr HTr.out)
          obtain ⟨nv, Hnv⟩ : ∃ x, Hid (x = Sgn.nodeV ot r) := ⟨_, Lib.hid rfl⟩
          rw [← Hnv.out] at HN1
          clear hxb hbt
          gi_wp2_with fail
          refine ⟨trivial, ?_⟩
          refine (callsIn_wide.2 HN1.out).mono ?_
          rintro e w4 ⟨rfl, hb4⟩
          have HB4 := Lib.hid (below_step HB.out hb4)
          clear hb4
          gi_wp2_with fail
          go_roundw
          case rel => exact ⟨k + 1, by omega, by go_num, nv, rfl, Lib.hid ⟨by rw [HUp.out, Hnv.out], by rw [Hnv.out]; exact Sgn.lst_size _⟩, HB4⟩
          case measure => simp [intOf]; omega
        · have HUp : Hid (Sgn.climbUp idx path kv (k + 1) = Sgn.nodeV r ot) := Lib.hid (by
            show (if idx / 2 ^ k % 2 = 1 then _ else _) = _
            rw [if_neg hbt, Hot.out, HR.out.1])
          have hb1 : (bits BinOp.and IntKind.i64 ((idx : Int) / 2 ^ k) 1 == 1) = false := by rw [hxb, show idx / 2 ^ k % 2 = 0 by omega]; rfl
          have HN1 := Lib.hid (node_any r ot (by rw [HR.out.2]; decide) (by omega) wr HTr.out)
          obtain ⟨nv, Hnv⟩ : ∃ x, Hid (x = Sgn.nodeV r ot) := ⟨_, Lib.hid rfl⟩
          rw [← Hnv.out] at HN1
          clear hxb hbt
          gi_wp2_with fail
          refine ⟨trivial, ?_⟩
          refine (callsIn_wide.2 HN1.out).mono ?_
          rintro e w4 ⟨rfl, hb4⟩
          have HB4 := Lib.hid (below_step HB.out hb4)
          clear hb4
          gi_wp2_with fail
          go_roundw
          case rel => exact ⟨k + 1, by omega, by go_num, nv, rfl, Lib.hid ⟨by rw [HUp.out, Hnv.out], by rw [Hnv.out]; exact Sgn.lst_size _⟩, HB4⟩
          case measure => simp [intOf]; omega
      · obtain rfl : p = k := by omega
        have Hres : Hid (Sgn.rootOf msg idx sig path = r) := Lib.hid (by
          unfold Sgn.rootOf
          rw [← Hp.out, ← Hkv.out, HR.out.1])
        have HKr : Hid (wr.heap[D]? = some (.deferred (some []))) := Lib.hid (by
          have hDW : D < W.heap.size := (Array.getElem?_eq_some_iff.1 HKd.out).1
          rw [HB.out.block D (by have := HB3.out.size; omega), HB3.out.block D hDW]
          exact HKd.out)
        have hz9 := HWB.out.size
        clear q1 q2
        gi_wp2_with fail
        have hbq : (r.toList == pub.toList) = decide (r = pub) := by
          by_cases h : r = pub
          · rw [decide_eq_true h, h]; exact beq_self_eq_true _
          · rw [decide_eq_false h]; exact (Lib.bytes_beq_false_iff _ _).2 h
        refine ⟨by simp, .inl ⟨_, _, rfl, run_takeDeferred HKr.out, ?_⟩⟩
        refine ⟨.bool (decide (r = pub)), by simp [results, Tryd.f18, go_sem, hbq], by rw [Hres.out], ?_⟩
        exact HWr.out.trans (belowK_b (w := w) (Nat.le_refl _) _ D _ _ (by omega) HKr.out rfl rfl)

end Go.Proofs.YtfnbdjjobndgfaaDoor
