/- collected's closure: one index more. -/
import Derived.Test.YtolnpimnoajcaaaLnkAddM
import Derived.Deep.CutRange
import Derived.Deep.CutBlock
namespace Go.Proofs.Ytolnpimnoajcaaa
open Go.RowKit Go.Maps Go.WideMaps
open Lnk

theorem wp_of_runL {P : Program} {o : Oper} {a : Act} {w w' : World} {v : Value} {K : Act → World → Prop} {Q : Exit → Act → World → Prop} (hr : (execOp a.eval o).run P w = .ok (.value v) w') (h : K (a.put o.dst v) w') : o.wp P a w K Q := by
  unfold Oper.wp; rw [hr]; exact h
theorem wp_of_skipL {P : Program} {o : Oper} {a : Act} {w w' : World} {K : Act → World → Prop} {Q : Exit → Act → World → Prop} (hr : (execOp a.eval o).run P w = .ok .skip w') (h : K (a.put o.dst undef) w') : o.wp P a w K Q := by
  unfold Oper.wp; rw [hr]; exact h
section
variable (d : Option Tmp) (t : TypeId) (pos : String) (af : Array Edge) (g : Option (Nat × Bool)) (A : Act) (w : World)
theorem run_moveL (x : Tmp) (v : Value) (hx : A.eval (.tmp x) = v) : (execOp A.eval ⟨d, .move (.tmp x), t, pos, af, g⟩).run Try.prog w = .ok (.value v) w := by
  subst hx; rfl
theorem run_loadL (T : TypeId) (hT : T = 26 ∨ T = 29) (x : Tmp) (p : Addr) (v : Value) (hx : A.eval (.tmp x) = .pointer (some p)) (hc : w.cell? p = some v) :
    (execOp A.eval ⟨d, .load T (.tmp x), t, pos, af, g⟩).run Try.prog w = .ok (.value v) w := by
  unfold execOp
  rcases hT with rfl | rfl <;> simp only [hx] <;> go_simp
theorem run_indexL (x y : Tmp) (b n c j : Nat) (hj : j < n) (hx : A.eval (.tmp x) = .slice (some ⟨b, 0, none⟩) n c) (hy : A.eval (.tmp y) = .int .i64 j) :
    (execOp A.eval ⟨d, .indexAddr 26 (.tmp x) (.tmp y), t, pos, af, g⟩).run Try.prog w = .ok (.value (.pointer (some ⟨b, j, none⟩))) w := by
  have h0 : (0 : Int) ≤ j := by omega
  have h1 : (j : Int) < n := by omega
  unfold execOp
  simp only [hx, hy]
  go_simp
theorem run_oneL (x : Tmp) (z : Int) (hx : A.eval (.tmp x) = .int .i64 z) :
    (execOp A.eval ⟨d, .buildSlice 29 1 #[(0, .tmp x)], t, pos, af, g⟩).run Try.prog w = .ok (.value (.slice (some ⟨w.heap.size, 0, none⟩) 1 1)) (w.alloc (.cells #[.int .i64 z] 3)) := by
  unfold execOp
  simp only [hx, List.map_toArray, List.map_cons, List.map_nil]
  go_simp
theorem run_appendL (w' : World) (x y : Tmp) (v1 v2 v : Value) (hx : A.eval (.tmp x) = v1) (hy : A.eval (.tmp y) = v2)
    (hr : (Builtin.append_ #[29, 29] t #[v1, v2]).run Try.prog w = .ok v w') :
    (execOp A.eval ⟨d, .call { callee := .builtin .append, args := #[.tmp x, .tmp y], argTypes := #[29, 29] }, t, pos, af, g⟩).run Try.prog w = .ok (.value v) w' := by
  unfold execOp
  simp only [resolve, invoke, builtin, Sem.run_bind, Sem.run_pure, Result.andThen_ok, List.map_toArray, List.map_cons, List.map_nil, hx, hy, hr]
theorem run_storeL (x y : Tmp) (b j n c : Nat) (ao : Option Addr) (u : Value) (hc : w.cell? ⟨b, j, none⟩ = some u) (hf : w.frozen? ⟨b, j, none⟩ = false) (hx : A.eval (.tmp x) = .pointer (some ⟨b, j, none⟩)) (hy : A.eval (.tmp y) = .slice ao n c) :
    (execOp A.eval ⟨d, .store 29 (.tmp x) (.tmp y), t, pos, af, g⟩).run Try.prog w = .ok .skip (w.setCell ⟨b, j, none⟩ (.slice ao n c)) := by
  unfold execOp
  simp only [hx, hy]
  go_simp
theorem ag_int {B : Nat} (ty : TypeId) {m : Nat} (h1 : m ≤ 1000000) (hb : B ≤ w.heap.size) {v : Value} {xs : List Value} {z : Int} (h : w.ownsRow B 3 1 v m xs) {gb : Nat} (hg : Whole w gb 3 #[.int .i64 z]) :
    ∃ v' w', (Builtin.append_ #[29, 29] ty #[v, .slice (some ⟨gb, 0, none⟩) 1 1]).run Try.prog w = .ok v' w' ∧ w'.ownsRow B 3 1 v' (m + 1) (xs ++ [.int .i64 z]) ∧ w.grownBy w' v.ownBlock ∧ (v'.ownBlock = v.ownBlock ∨ v'.ownBlock = some w.heap.size) := by
  obtain ⟨i1, hi1, hy0, hy1, hy2⟩ := infoP info_intJ
  obtain ⟨v', w', hr, r1, r2, _, r3⟩ := run_append_own_at (P := Try.prog) (w := w) B 29 ty 3 i1 (.int .i64 0) 1 8 Try.underlying29 hi1 hy0 hy1 hy2 rfl (by decide) v m xs h ⟨gb, 0, none⟩ 1 1 [.int .i64 z] rfl (fun j u hu => by
    have e : (⟨gb, 0, none⟩ : Addr).add j = ⟨gb, j, none⟩ := by unfold Addr.add; split <;> simp_all
    rw [e, hg.cell]
    simpa using hu) (by simp [Value.oneCell']) (by unfold maxLen; omega) (by omega) hb
  exact ⟨v', w', hr, r1, r2, r3⟩
end

/-! ### The last region: an index more in a row of sets -/
def adK : List FactKey := [(none, none), (some 8, none), (some 8, some 7), (none, some 8), (some 10, none), (none, some 10)]
def adP (V : World) (B : Nat) (u sv : Value) (m N : Nat) (xs vs : List Value) (z : Int) (t gb : Nat) : Nat → Value → World → Prop
  | 0, _, w => Only (fun b => b = gb ∨ u.ownBlock = some b) V w
  | 1, _, w => w.ownsRow B 3 1 u m xs
  | 2, v, w => ∃ g, v = .slice (some ⟨g, 0, none⟩) 1 1 ∧ Whole w g 3 #[.int .i64 z]
  | 3, v, w => w.ownsRow B 3 1 v (m + 1) (xs ++ [.int .i64 z]) ∧ (v.ownBlock = u.ownBlock ∨ ∀ b, v.ownBlock = some b → V.heap.size ≤ b)
  | 4, _, w => w.ownsRow B 29 1 sv N vs
  | 5, _, w => ∃ v, w.ownsRow B 29 1 sv N (vs.set t v) ∧ w.ownsRow B 3 1 v (m + 1) (xs ++ [.int .i64 z]) ∧ (v.ownBlock = u.ownBlock ∨ ∀ b, v.ownBlock = some b → V.heap.size ≤ b)
  | _, _, _ => True
theorem adP_below {V : World} {B : Nat} {u sv : Value} {m N : Nat} {xs vs : List Value} {z : Int} {t gb : Nat} : ∀ k x w w', adP V B u sv m N xs vs z t gb k x w → Below w.heap.size w w' → adP V B u sv m N xs vs z t gb k x w'
  | 0, _, _, _, h, hb => h.trans (Only.of_below _ hb)
  | 1, _, _, _, h, hb => owns_belowM h hb
  | 2, _, _, _, ⟨g, h1, h2⟩, hb => ⟨g, h1, whole_belowM h2 hb⟩
  | 3, _, _, _, h, hb => ⟨owns_belowM h.1 hb, h.2⟩
  | 4, _, _, _, h, hb => owns_belowM h hb
  | 5, _, _, _, ⟨v, h1, h2, h3⟩, hb => ⟨v, owns_belowM h1 hb, owns_belowM h2 hb, h3⟩
  | _ + 6, _, _, _, _, _ => trivial
def adV (sv u : Value) (t gb : Nat) (z : Int) : Nat → Value → Prop
  | 0, v => v = sv
  | 1, v => v = .int .i64 t
  | 2, v => v = sv
  | 3, v => v = .int .i64 t
  | 4, v => v = .pointer (some ⟨gb, t, none⟩)
  | 5, v => v = u
  | 6, v => v = .int .i64 z
  | 9, v => v = .pointer (some ⟨gb, t, none⟩)
  | _, _ => True

structure Ready (V0 : World) (B pb n cap mb b3 b5 b6 : Nat) (r d : Nat → Nat) (k t : Nat) (w : World) : Prop where
  ex : ∃ gs, Adds V0 B pb n cap mb b3 b5 b6 r d gs (k + 1) (at? r (k + 1)) w ∧ ∃ h : t < gs.length, gs.set t (gs[t] ++ [k]) = groups r (k + 1) ∧ gs[t].length ≤ k

set_option maxRecDepth 100000 in
set_option maxHeartbeats 8000000 in
theorem add_any (V0 : World) (B pb n cap mb b3 b5 b6 : Nat) (r d : Nat → Nat) (k : Nat) (hn : n ≤ 1000000) (hcap : n ≤ cap) (hk : k < n) (ho : LOrd V0 B pb mb b3 b5 b6) (W : World) (ha : Adds V0 B pb n cap mb b3 b5 b6 r d (groups r k) k (at? r k) W) :
    Calls Try.prog 39 #[.int .i64 k, .pointer (some ⟨b6, 0, none⟩), .pointer (some ⟨b3, 0, none⟩), .pointer (some ⟨b5, 0, none⟩)] W fun e w' => e = .returned (.tuple #[]) ∧ Adds V0 B pb n cap mb b3 b5 b6 r d (groups r (k + 1)) (k + 1) (at? r (k + 1)) w' := by
  obtain ⟨i1, hi1, hy0, hy1, hy2⟩ := infoP info_rowL
  have HA := Lib.hid ha
  have HO := Lib.hid ho
  have HRt := Lib.hid (fun (q : Nat → Nat) (hq : UF n q r d) (w : World) (hw : IsP w pb n q) => root_any n pb cap hn hcap q r d hq k hk w hw)
  obtain ⟨R, HR⟩ : ∃ x, Hid (x = r k) := ⟨_, Lib.hid rfl⟩
  have HRn : Hid (R < n) := Lib.hid (by obtain ⟨p, hu, _⟩ := ha.par; rw [HR.out]; exact hu.rlt k hk)
  rw [← HR.out] at HRt
  clear ha ho
  have HCl : Hid (∀ (W1 : World) (x : RootW W1 pb n r d), Calls Try.prog 28 #[.slice (some ⟨pb, 0, none⟩) n cap, .int .i64 k] x.w fun e w'' => e = .returned (.int .i64 R) ∧ ∃ y : RootW W1 pb n r d, w'' = y.w) := Lib.hid (fun W1 x => by
    obtain ⟨p, hu, hp⟩ := x.2.2
    refine (HRt.out p hu x.w hp).mono ?_
    rintro e w2 ⟨rfl, q, u1, p1, g1⟩
    exact ⟨rfl, ⟨w2, grown_transL x.2.1 g1, q, u1, p1⟩, rfl⟩)
  have HMv : Hid (∀ (gs : List (List Nat)) (c : Nat) (f : Nat → Option Nat) (W1 : World) (h : Adds V0 B pb n cap mb b3 b5 b6 r d gs c f W1) (x : RootW W1 pb n r d), Adds V0 B pb n cap mb b3 b5 b6 r d gs c f x.w) := Lib.hid (fun gs c f W1 h x => h.moved HO.out x.2.1 x.2.2)
  obtain ⟨o, Hob⟩ : ∃ x, Hid (at? r k R = x) := ⟨_, Lib.hid rfl⟩
  obtain ⟨tv, Htv⟩ : ∃ x : Nat, Hid (x = o.getD 0) := ⟨_, Lib.hid rfl⟩
  obtain ⟨tb, Htb⟩ : ∃ x : Bool, Hid (x = o.isSome) := ⟨_, Lib.hid rfl⟩
  have gm : ∀ x : RootW W pb n r d, x.w.cell? ⟨b6, 0, none⟩ = some (.map (some mb)) := fun x => (HMv.out _ _ _ _ HA.out x).map.cell 0
  have gf : ∀ x : RootW W pb n r d, x.w.cell? ⟨b3, 0, none⟩ = some (.func (.func 28) #[.slice (some ⟨pb, 0, none⟩) n cap] #[]) := fun x => (HMv.out _ _ _ _ HA.out x).root.cell 0
  have gl : ∀ x : RootW W pb n r d, (Instr.lookup 68 (.map (some mb)) (.int .i64 R) true).run Try.prog x.w = .ok (.tuple #[.int .i64 tv, .bool tb]) x.w := fun x => by
    have := (HMv.out _ _ _ _ HA.out x).tbl.look_ok (s := R) (by have := HRn.out; omega)
    rw [Hob.out, ← Htv.out, ← Htb.out] at this
    exact this
  have HC0 : Hid (∃ x : RootW W pb n r d, W.drew = x.w) := Lib.hid ⟨⟨W.drew, ⟨rfl, rfl, rfl, Nat.le_refl _, fun _ _ _ => rfl⟩, HA.out.par⟩, rfl⟩
  haveI : Nonempty (RootW W pb n r d) := ⟨HC0.out.choose⟩
  go_enter Try.func39, Try.ntmps39
  go_wp2_with fail
  refine wp_region_class (fun w' => ∃ x : RootW W pb n r d, w' = x.w) (by kernel_rfl) (by kernel_rfl) HC0.out ?_
  repeat (go_big_quiet_step (exact HCl.out W _))
  refine wpQuiet_nil ?_
  rintro _ ⟨Z, rfl⟩
  have HAZ := Lib.hid (HMv.out _ _ _ _ HA.out Z)
  clear gm gf gl
  go_upto_if 16 with fail
  go_cut [5] from 6 (fun v wx => ∃ t : Nat, v = .int .i64 t ∧ Hid (Ready V0 B pb n cap mb b3 b5 b6 r d k t wx))
  case first =>
    cases o with
    | some t =>
      obtain rfl : tv = t := Htv.out
      obtain rfl : tb = true := Htb.out
      have HRd : Hid (Ready V0 B pb n cap mb b3 b5 b6 r d k tv Z.w) := Lib.hid (by
        have hob : at? r k (r k) = some tv := by rw [← HR.out]; exact Hob.out
        obtain ⟨h1, _⟩ := at_some hob
        have h2 : tv < (groups r k).length := by rw [groups_len]; exact h1
        refine ⟨groups r k, ?_, h2, (groups_old hob h2).symm, group_len (List.getElem_mem h2)⟩
        obtain ⟨q1, q2, q3, q4, q5, q6, q7⟩ := HAZ.out
        exact ⟨q1, q2, q3, q4, q5, by rw [show at? r (k + 1) = at? r k from funext (at_next_old hob)]; exact q6.mono (by omega), q7⟩)
      go_wp2_with fail
      go_meet
      exact ⟨tv, rfl, HRd⟩
    | none =>
      obtain rfl : tv = 0 := Htv.out
      obtain rfl : tb = false := Htb.out
      obtain ⟨sv, hw5, hS⟩ := HAZ.out.sets
      obtain ⟨vs0, h1, h2, h3⟩ := hS.ex
      obtain ⟨ao, co, rfl⟩ := owns_shapeM h1
      obtain ⟨L, HL⟩ : ∃ x, Hid (x = (groups r k).length) := ⟨_, Lib.hid rfl⟩
      have hLk : L ≤ k := by rw [HL.out, groups_len]; exact reps_len r k
      rw [← HL.out] at hw5
      have c5 := hw5.cell 0
      clear hw5 hS h1 h2 h3
      have HC1 : Hid (∃ x : RootW Z.w pb n r d, Z.w.drew = x.w) := Lib.hid ⟨⟨Z.w.drew, ⟨rfl, rfl, rfl, Nat.le_refl _, fun _ _ _ => rfl⟩, HAZ.out.par⟩, rfl⟩
      haveI : Nonempty (RootW Z.w pb n r d) := ⟨HC1.out.choose⟩
      have gm : ∀ x : RootW Z.w pb n r d, x.w.cell? ⟨b6, 0, none⟩ = some (.map (some mb)) := fun x => (HMv.out _ _ _ _ HAZ.out x).map.cell 0
      have gf : ∀ x : RootW Z.w pb n r d, x.w.cell? ⟨b3, 0, none⟩ = some (.func (.func 28) #[.slice (some ⟨pb, 0, none⟩) n cap] #[]) := fun x => (HMv.out _ _ _ _ HAZ.out x).root.cell 0
      go_wp2_with fail
      refine wp_region_class_tail (fun w' => ∃ x : RootW Z.w pb n r d, w' = x.w) 5 (by kernel_rfl) (by kernel_rfl) HC1.out ?_
      simp only [List.take_succ_cons, List.take_zero, List.drop_succ_cons, List.drop_zero]
      repeat (go_big_quiet_step (exact HCl.out Z.w _))
      refine wpQuiet_nil ?_
      rintro _ ⟨Y, rfl⟩
      have HAY := Lib.hid (HMv.out _ _ _ _ HAZ.out Y)
      have hRm : R ≤ 1000000 := by have := HRn.out; omega
      obtain ⟨w4, hpt, hM, hg⟩ := HAY.out.tbl.put (by unfold maxLen; omega) hRm L
      have HA4 := Lib.hid (HAY.out.put HO.out hg hM)
      clear gm gf hM hg c5 hRm
      obtain ⟨sv4, hw5, hS⟩ := HA4.out.sets
      obtain ⟨vs, h1, h2, h3⟩ := hS.ex
      obtain ⟨a4, c4, rfl⟩ := owns_shapeM h1
      rw [← HL.out] at h1 hw5
      have HW5 := Lib.hid hw5
      have HH1 := Lib.hid h1
      have HH2 := Lib.hid h2
      have HH3 := Lib.hid h3
      have e5 := hw5.cell 0
      have HBA : Hid (Below w4.heap.size w4 (w4.alloc (.cells #[.slice none 0 0] 29))) := Lib.hid ((Below.refl _ _).alloc (Nat.le_refl _) _)
      have HON : Hid ((w4.alloc (.cells #[.slice none 0 0] 29)).ownsRow B 29 1 (.slice a4 L c4) L vs) := Lib.hid (owns_belowM h1 HBA.out)
      have HNs := Lib.hid (news_one w4 29 (.slice none 0 0))
      have HOc : Hid (∀ u ∈ [Value.slice none 0 0], u.oneCell' = true) := Lib.hid (by simp [Value.oneCell'])
      have hsz : B ≤ (w4.alloc (.cells #[.slice none 0 0] 29)).heap.size := Nat.le_trans HA4.out.big HBA.out.size
      clear h1 h2 h3 hw5 hS
      go_wp2_with (at_builtin; refine wpList_append_own _ rfl _ _ 26 rfl B 29 i1 _ 1 24 Try.underlying26 hi1 hy0 hy1 hy2 rfl (by decide) (.slice a4 L c4) L vs rfl HON.out ⟨w4.heap.size, 0, none⟩ 1 1 [.slice none 0 0] rfl (by simp) HNs.out HOc.out (by unfold maxLen; omega) (by omega) hsz ?_; intro v' w6 hown hgrow _; refine Hid.out ?_)
      refine Lib.hid ?_
      obtain ⟨a6, c6, rfl⟩ := owns_shapeM hown
      have hob5 : ∀ y, (Value.slice a4 L c4).ownBlock = some y → B ≤ y := fun y e => (HON.out.lt y e).1
      have HW6 : Hid (Whole w6 b5 26 #[.slice a4 L c4]) := Lib.hid (whole_grownM (whole_belowM HW5.out HBA.out) hgrow (fun e => by have := hob5 b5 e; have := HO.out.h5; omega))
      have HOn6 := Lib.hid hown
      have HGr6 := Lib.hid hgrow
      have e6 := HW6.out.cell 0
      have f6 := HW6.out.frozen 0
      have Hob5 := Lib.hid hob5
      have HRd : Hid (Ready V0 B pb n cap mb b3 b5 b6 r d k L (w6.setCell ⟨b5, 0, none⟩ (.slice a6 (L + 1) c6))) := Lib.hid (by
        have hob : at? r k (r k) = none := by rw [← HR.out]; exact Hob.out
        refine ⟨groups r k ++ [[]], ?_, by rw [List.length_append, ← HL.out]; simp, ?_, ?_⟩
        · have hf : (fun x => if x = R then some L else at? r k x) = at? r (k + 1) := funext fun x => by
            rw [at_next_new hob, ← groups_len, ← HL.out, ← HR.out]
          have hA := HA4.out
          rw [hf] at hA
          have hon : Only (fun b => b = b5 ∨ B ≤ b) w4 (w6.setCell ⟨b5, 0, none⟩ (.slice a6 (L + 1) c6)) := by
            have q : Only (fun b => b = b5 ∨ B ≤ b) w4 w6 := (Only.of_below _ HBA.out).trans (Only.of_grown hgrow (fun y e => Or.inr (hob5 y e)))
            exact q.setCell (p := ⟨b5, 0, none⟩) (Or.inl (Or.inl rfl)) _
          refine hA.resets HO.out hon ⟨_, HW6.out.set 0 _, vs ++ [.slice none 0 0], ?_, fun j hj => ?_, ?_⟩
          · have := ownsRow_setCell_below hown (a := ⟨b5, 0, none⟩) HO.out.h5.2 (.slice a6 (L + 1) c6)
            rw [List.length_append, ← HL.out]; exact this
          · by_cases hjl : j < (groups r k).length
            · obtain ⟨u, q1, q2⟩ := HH2.out j hjl
              refine ⟨u, by rw [List.getElem?_append_left (List.getElem?_eq_some_iff.1 q1).1]; exact q1, ?_⟩
              rw [List.getElem_append_left hjl]
              exact ownsRow_setCell_below (Apart.kept (owns_apartJ HON.out (owns_belowM q2 HBA.out) (by decide)) (owns_belowM q2 HBA.out) hgrow) (a := ⟨b5, 0, none⟩) HO.out.h5.2 _
            · have hjL : j = L := by rw [List.length_append, List.length_singleton] at hj; have := HL.out; omega
              have hvl : vs.length = L := by have := HH1.out.1; omega
              subst hjL
              refine ⟨.slice none 0 0, by rw [← hvl, List.getElem?_concat_length], ?_⟩
              rw [List.getElem_append_right (by rw [← HL.out]; exact Nat.le_refl _)]
              simp only [← HL.out, Nat.sub_self, List.getElem_cons_zero]
              exact World.ownsRow_nil _ _ _ _
          · intro i j u u' b hij hi hj hb
            by_cases hjl : j < vs.length
            · by_cases hil : i < vs.length
              · rw [List.getElem?_append_left hil] at hi
                rw [List.getElem?_append_left hjl] at hj
                exact HH3.out i j u u' b hij hi hj hb
              · have hi2 : i < (vs ++ [Value.slice none 0 0]).length := (List.getElem?_eq_some_iff.1 hi).1
                rw [List.length_append, List.length_singleton] at hi2
                obtain rfl : i = vs.length := by omega
                rw [List.getElem?_concat_length] at hi
                obtain rfl := Option.some.inj hi
                simp [Value.ownBlock] at hb
            · have hj2 : j < (vs ++ [Value.slice none 0 0]).length := (List.getElem?_eq_some_iff.1 hj).1
              rw [List.length_append, List.length_singleton] at hj2
              obtain rfl : j = vs.length := by omega
              rw [List.getElem?_concat_length] at hj
              obtain rfl := Option.some.inj hj
              simp [Value.ownBlock]
        · rw [groups_new hob]
          simp [HL.out, List.set_append, List.getElem_append_right]
        · simp [HL.out, List.getElem_append_right])
      clear hown hgrow hob5 e5 hsz
      go_wp2_with fail
      go_meet
      exact ⟨L, rfl, HRd⟩
  case rest =>
    obtain ⟨t, rfl, HRdy⟩ := hcut
    obtain ⟨gs, hA5, ht, hgs, hlen⟩ := HRdy.out.ex
    obtain ⟨sv, hw5, hS⟩ := hA5.sets
    obtain ⟨vs, h1, h2, h3⟩ := hS.ex
    obtain ⟨u, hvu, hu⟩ := h2 t ht
    obtain ⟨gb, cp, rfl, hgb, ⟨cur, hcur⟩, hcells⟩ := owns_whole_put h1 ht
    obtain ⟨m, Hm⟩ : ∃ x, Hid (x = gs[t].length) := ⟨_, Lib.hid rfl⟩
    obtain ⟨N, HN⟩ : ∃ x, Hid (x = gs.length) := ⟨_, Lib.hid rfl⟩
    obtain ⟨xs, Hxs⟩ : ∃ x, Hid (x = natC gs[t]) := ⟨_, Lib.hid rfl⟩
    have htN : t < N := by rw [HN.out]; exact ht
    have hmk : m ≤ k := by rw [Hm.out]; exact hlen
    rw [← Hm.out, ← Hxs.out] at hu
    rw [← HN.out] at h1 hw5
    have HW5 := Lib.hid hw5
    have HH1 := Lib.hid h1
    have HH2 := Lib.hid h2
    have HH3 := Lib.hid h3
    have Hu := Lib.hid hu
    have Hvu := Lib.hid hvu
    have HA5 := Lib.hid hA5
    have Hgs := Lib.hid hgs
    have hB5 : b5 < B := HO.out.h5.2
    have HuB : Hid (∀ b, u.ownBlock = some b → B ≤ b) := Lib.hid (fun b e => (hu.lt b e).1)
    have Hb : Hid (B ≤ wc.heap.size) := Lib.hid hA5.big
    clear hcells hcur hA5 hw5 hS h1 h2 h3 hu hvu hgs
    go_wp2_with fail
    apply wp_region_facts 37 adK (adP wc B u (.slice (some ⟨gb, 0, none⟩) N cp) m N xs vs k t gb) (adV (.slice (some ⟨gb, 0, none⟩) N cp) u t gb k) (by kernel_rfl) (by kernel_rfl) rfl
    · intro j tt hj
      match j, hj with
      | 0, _ => exact (Only.refl _ _).drew
      | 1, _ => exact owns_belowM Hu.out (Below.refl _ _).drew
      | 4, _ => exact owns_belowM HH1.out (Below.refl _ _).drew
      | 2, hj | 3, hj | 5, hj => simp [adK] at hj
      | _ + 6, hj => simp [adK] at hj
    · intro i oo ho' e w A' hT hei hsee haway
      have s3 : A'.eval (.tmp 3) = .pointer (some ⟨b5, 0, none⟩) := (haway 3 (by kernel_rfl)).trans rfl
      have s5 : A'.eval (.tmp 5) = .int .i64 t := (haway 5 (by kernel_rfl)).trans rfl
      have s0 : A'.eval (.tmp 0) = .int .i64 k := (haway 0 (by kernel_rfl)).trans rfl
      have hlow : Only (fun b => b = gb ∨ u.ownBlock = some b) wc w := hT.base 0 none rfl (fun _ h => by cases h)
      have hbox : Whole w b5 26 #[.slice (some ⟨gb, 0, none⟩) N cp] := hlow.whole HW5.out (fun hh => by
        rcases hh with hh | hh
        · omega
        · have := HuB.out _ hh; omega)
      have hi : i < 11 := by have := (List.getElem?_eq_some_iff.1 ho').1; simpa using this
      have hi : i = 0 ∨ i = 1 ∨ i = 2 ∨ i = 3 ∨ i = 4 ∨ i = 5 ∨ i = 6 ∨ i = 7 ∨ i = 8 ∨ i = 9 ∨ i = 10 := by omega
      rcases hi with rfl | rfl | rfl | rfl | rfl | rfl | rfl | rfl | rfl | rfl | rfl
      all_goals
        simp only [List.getElem?_cons_succ, List.getElem?_cons_zero, Option.some.injEq] at ho'
        subst ho'
      · exact wp_of_runL (run_loadL _ _ _ _ _ _ _ _ (Or.inl rfl) 3 _ _ s3 (hbox.cell 0)) ⟨_, rfl, rfl, .plain adP_below (Below.refl _ _) (by decide)⟩
      · exact wp_of_runL (run_moveL _ _ _ _ _ _ _ 5 _ s5) ⟨_, rfl, rfl, .plain adP_below (Below.refl _ _) (by decide)⟩
      · exact wp_of_runL (run_loadL _ _ _ _ _ _ _ _ (Or.inl rfl) 3 _ _ s3 (hbox.cell 0)) ⟨_, rfl, rfl, .plain adP_below (Below.refl _ _) (by decide)⟩
      · exact wp_of_runL (run_moveL _ _ _ _ _ _ _ 5 _ s5) ⟨_, rfl, rfl, .plain adP_below (Below.refl _ _) (by decide)⟩
      · have q2 : A'.eval (.tmp 29) = .slice (some ⟨gb, 0, none⟩) N cp := (hsee 29 2 (by kernel_rfl) rfl).2
        have q3 : A'.eval (.tmp 30) = .int .i64 t := (hsee 30 3 (by kernel_rfl) rfl).2
        exact wp_of_runL (run_indexL _ _ _ _ _ _ _ 29 30 gb N cp t htN q2 q3) ⟨_, rfl, rfl, .plain adP_below (Below.refl _ _) (by decide)⟩
      · have q4 : A'.eval (.tmp 31) = .pointer (some ⟨gb, t, none⟩) := (hsee 31 4 (by kernel_rfl) rfl).2
        have h10 : e 10 = none := by
          cases hx : e 10 with
          | none => rfl
          | some v => exact absurd hei (hT.order 8 5 (hT.order 10 8 (by rw [hx]; simp) (by kernel_rfl)) (by kernel_rfl))
        have hrow : w.ownsRow B 29 1 (.slice (some ⟨gb, 0, none⟩) N cp) N vs := hT.base 4 (some 10) rfl (fun j h => by cases h; exact h10)
        exact wp_of_runL (run_loadL _ _ _ _ _ _ _ _ (Or.inr rfl) 31 _ _ q4 (owns_cell_at hrow Hvu.out).1) ⟨_, rfl, rfl, .plain adP_below (Below.refl _ _) (by decide)⟩
      · exact wp_of_runL (run_moveL _ _ _ _ _ _ _ 0 _ s0) ⟨_, rfl, rfl, .plain adP_below (Below.refl _ _) (by decide)⟩
      · have q6 : A'.eval (.tmp 33) = .int .i64 k := (hsee 33 6 (by kernel_rfl) rfl).2
        refine wp_of_runL (run_oneL _ _ _ _ _ _ _ 33 _ q6) ⟨_, rfl, trivial, .below adP_below ((Below.refl _ _).alloc (Nat.le_refl _) _) ?_⟩
        intro j tt hj
        match j, hj with
        | 2, _ => exact ⟨_, rfl, Whole.new _ _ _⟩
        | 0, hj | 1, hj | 3, hj | 4, hj | 5, hj => simp [adK] at hj
        | _ + 6, hj => simp [adK] at hj
      · have q5 : A'.eval (.tmp 32) = u := (hsee 32 5 (by kernel_rfl) rfl).2
        obtain ⟨g, q9, q10⟩ := hT.of 2 (some 8) 7 rfl (fun j h => by cases h; exact hei) _ (hsee 34 7 (by kernel_rfl) rfl).1
        have hrow : w.ownsRow B 3 1 u m xs := hT.base 1 (some 8) rfl (fun j h => by cases h; exact hei)
        obtain ⟨v, w', hr, r1, r2, r3⟩ := ag_int w 29 (by omega) (Nat.le_trans Hb.out hlow.size) hrow q10
        refine wp_of_runL (run_appendL _ _ _ _ _ _ _ w' 32 34 _ _ _ q5 q9 hr) ⟨_, rfl, trivial, ?_, ?_⟩
        · intro j tt hj
          match j, hj with
          | 3, _ => exact ⟨r1, r3.imp id (fun h b hb => by rw [h] at hb; injection hb with hb; rw [← hb]; exact hlow.size)⟩
          | 0, hj | 1, hj | 2, hj | 4, hj | 5, hj => simp [adK] at hj
          | _ + 6, hj => simp [adK] at hj
        · intro j p hj h1 h2 h3 x hx
          match j, hj, hx with
          | 0, _, hx => exact Only.trans hx (Only.of_grown r2 (fun y e => Or.inr e))
          | 1, hj, _ => cases hj; exact absurd rfl h1
          | 2, hj, _ => cases hj; exact absurd rfl h1
          | 3, hj, _ => cases hj; exact absurd rfl h2
          | 4, _, hx => exact Apart.kept (owns_apartJ hrow hx (by decide)) hx r2
          | 5, hj, _ => cases hj; exact Bool.noConfusion ((show true = _ from by kernel_rfl).trans (h3 10 rfl))
          | _ + 6, _, _ => trivial
      · have q0 : A'.eval (.tmp 27) = .slice (some ⟨gb, 0, none⟩) N cp := (hsee 27 0 (by kernel_rfl) rfl).2
        have q1 : A'.eval (.tmp 28) = .int .i64 t := (hsee 28 1 (by kernel_rfl) rfl).2
        exact wp_of_runL (run_indexL _ _ _ _ _ _ _ 27 28 gb N cp t htN q0 q1) ⟨_, rfl, rfl, .plain adP_below (Below.refl _ _) (by decide)⟩
      · have q9 : A'.eval (.tmp 36) = .pointer (some ⟨gb, t, none⟩) := (hsee 36 9 (by kernel_rfl) rfl).2
        obtain ⟨v, hv⟩ : ∃ v, A'.eval (.tmp 35) = v := ⟨_, rfl⟩
        have q8 := (hsee 35 8 (by kernel_rfl) rfl).1
        rw [hv] at q8
        obtain ⟨hnew, hbl⟩ := hT.of 3 none 8 rfl (fun _ h => by cases h) _ q8
        have hrow : w.ownsRow B 29 1 (.slice (some ⟨gb, 0, none⟩) N cp) N vs := hT.base 4 (some 10) rfl (fun j h => by cases h; exact hei)
        obtain ⟨av, cv, rfl⟩ := owns_shapeM hnew
        obtain ⟨hc, hf⟩ := owns_cell_at hrow Hvu.out
        obtain ⟨g9, c9, e9, _, ⟨cur, hcw⟩, _⟩ := owns_whole_put hrow htN
        have e9' : g9 = gb := by injection e9 with e9 _ _; injection e9 with e9; injection e9 with e9; exact e9.symm
        subst e9'
        have hkeep : ∀ {x : Value} {q : Nat} {ys : List Value}, w.ownsRow B 3 1 x q ys → (w.setCell ⟨g9, t, none⟩ (.slice av (m + 1) cv)).ownsRow B 3 1 x q ys := fun hh => ownsRow_setCell_other hh (a := ⟨g9, t, none⟩) (owns_wholeM hh hcw (by decide)) _
        refine wp_of_skipL (run_storeL _ _ _ _ _ _ _ 36 35 g9 t (m + 1) cv av u hc hf q9 hv) ⟨_, rfl, trivial, ?_, ?_⟩
        · intro j tt hj
          match j, hj with
          | 5, _ => exact ⟨_, owns_put hrow _, hkeep hnew, hbl⟩
          | 0, hj | 1, hj | 2, hj | 3, hj | 4, hj => simp [adK] at hj
          | _ + 6, hj => simp [adK] at hj
        · intro j p hj h1 h2 h3 x hx
          match j, hj, hx with
          | 0, _, hx => exact Only.setCell hx (p := ⟨g9, t, none⟩) (Or.inl (Or.inl rfl)) _
          | 1, _, hx => exact hkeep hx
          | 2, _, ⟨g, hx1, hx2⟩ => exact ⟨g, hx1, hx2.far (p := ⟨g9, t, none⟩) (fun e => by subst e; exact absurd (Whole.apart hx2 hcw (by decide)) (fun h => h rfl)) _⟩
          | 3, _, hx => exact ⟨hkeep hx.1, hx.2⟩
          | 4, hj, _ => cases hj; exact absurd rfl h1
          | 5, hj, _ => cases hj; exact absurd rfl h2
          | _ + 6, _, _ => trivial
    intro e w5 hT hall
    obtain ⟨v0, e0⟩ := hall 0 (by decide)
    obtain ⟨v1, e1⟩ := hall 1 (by decide)
    obtain ⟨v2, e2⟩ := hall 2 (by decide)
    obtain ⟨v3, e3⟩ := hall 3 (by decide)
    obtain ⟨v4, e4⟩ := hall 4 (by decide)
    obtain ⟨v5, e5⟩ := hall 5 (by decide)
    obtain ⟨v6, e6⟩ := hall 6 (by decide)
    obtain ⟨v7, e7⟩ := hall 7 (by decide)
    obtain ⟨v8, e8⟩ := hall 8 (by decide)
    obtain ⟨v9, e9⟩ := hall 9 (by decide)
    obtain ⟨v10, e10⟩ := hall 10 (by decide)
    have hlow : Only (fun b => b = gb ∨ u.ownBlock = some b) wc w5 := hT.base 0 none rfl (fun _ h => by cases h)
    obtain ⟨v, r1, r2, r3⟩ := hT.of 5 none 10 rfl (fun _ h => by cases h) _ e10
    have HEnd : Hid (Adds V0 B pb n cap mb b3 b5 b6 r d (groups r (k + 1)) (k + 1) (at? r (k + 1)) w5) := Lib.hid (by
      have hgsl : (gs.set t (gs[t] ++ [k])).length = N := by rw [List.length_set, HN.out]
      have hon : Only (fun b => b = b5 ∨ B ≤ b) wc w5 := hlow.mono (fun b hh => Or.inr (by
        rcases hh with hh | hh
        · rw [hh]; exact hgb
        · exact HuB.out b hh))
      rw [← Hgs.out]
      refine HA5.out.resets HO.out hon ⟨_, hlow.whole HW5.out (fun hh => by
        rcases hh with hh | hh
        · omega
        · have := HuB.out _ hh; omega), vs.set t v, by rw [hgsl]; exact r1, fun j hj => ?_, ?_⟩
      · have hj' : j < gs.length := by rw [List.length_set] at hj; exact hj
        have hjv : j < vs.length := by have := HH1.out.1; rw [HN.out] at this; omega
        by_cases ejt : j = t
        · subst ejt
          refine ⟨v, by rw [List.getElem?_set_self hjv], ?_⟩
          rw [List.getElem_set_self, List.length_append, List.length_singleton, ← Hm.out]
          have : natC (gs[j] ++ [k]) = xs ++ [.int .i64 k] := by rw [Hxs.out]; simp [natC]
          rw [this]; exact r2
        · obtain ⟨x, q1, q2⟩ := HH2.out j hj'
          refine ⟨x, by rw [List.getElem?_set_ne (fun e => ejt e.symm)]; exact q1, ?_⟩
          rw [List.getElem_set_ne (fun e => ejt e.symm)]
          rcases q2.2 with ⟨z1, z2⟩ | ⟨g9, cap9, cur9, rfl, z2, z3, z4, z5, z6, z7⟩
          · exact ⟨q2.1, Or.inl ⟨z1, z2⟩⟩
          · refine ⟨q2.1, Or.inr ⟨g9, cap9, cur9, rfl, z2, ?_, z4, z5, z6, z7⟩⟩
            refine (hlow.block g9 (Array.getElem?_eq_some_iff.1 z3).1 (fun hh => ?_)).trans z3
            rcases hh with hh | hh
            · subst hh
              obtain ⟨_, _, e9, _, ⟨cur, hcw⟩, _⟩ := owns_whole_put HH1.out htN
              injection e9 with e9 _ _
              injection e9 with e9
              injection e9 with e9
              subst e9
              exact absurd (Whole.apart (show Whole wc g9 3 cur9 from z3) hcw (by decide)) (fun h => h rfl)
            · exact HH3.out j t _ u g9 ejt q1 Hvu.out rfl hh
      · intro i j x x' b hij hi hj hb
        have hvne : ∀ (i : Nat) (x : Value), i ≠ t → vs[i]? = some x → ∀ b, x.ownBlock = some b → v.ownBlock ≠ some b := fun i x hit hx b hb hvb => by
          rcases r3 with r3 | r3
          · rw [r3] at hvb
            exact HH3.out i t x u b hit hx Hvu.out hb hvb
          · have h1 := r3 b hvb
            have hiN : i < gs.length := by have := (List.getElem?_eq_some_iff.1 hx).1; have h2 := HH1.out.1; rw [HN.out] at h2; omega
            obtain ⟨x2, q1, q2⟩ := HH2.out i hiN
            rw [hx] at q1
            obtain rfl := Option.some.inj q1
            have := (q2.lt b hb).2
            omega
        by_cases eit : i = t
        · subst eit
          have hil : i < vs.length := by have := (List.getElem?_eq_some_iff.1 hi).1; simpa using this
          rw [List.getElem?_set_self hil] at hi
          obtain rfl := Option.some.inj hi
          rw [List.getElem?_set_ne hij] at hj
          intro hx'
          exact hvne j x' (fun e => hij e.symm) hj b hx' hb
        · rw [List.getElem?_set_ne (fun e => eit e.symm)] at hi
          by_cases ejt : j = t
          · subst ejt
            have hjl : j < vs.length := by have := (List.getElem?_eq_some_iff.1 hj).1; simpa using this
            rw [List.getElem?_set_self hjl] at hj
            obtain rfl := Option.some.inj hj
            exact hvne i x hij hi b hb
          · rw [List.getElem?_set_ne (fun e => ejt e.symm)] at hj
            exact HH3.out i j x x' b hij hi hj hb)
    clear hlow r1 r2 r3 hT hall
    simp only [List.length_cons, List.length_nil, Nat.reduceAdd, fillTo, e0, e1, e2, e3, e4, e5, e6, e7, e8, e9, e10, dstOf]
    clear e0 e1 e2 e3 e4 e5 e6 e7 e8 e9 e10
    go_wp2_with fail
    refine bodyPost_end (results_none rfl _ _ _) rfl ?_
    exact ⟨rfl, HEnd.out⟩
end Go.Proofs.Ytolnpimnoajcaaa
