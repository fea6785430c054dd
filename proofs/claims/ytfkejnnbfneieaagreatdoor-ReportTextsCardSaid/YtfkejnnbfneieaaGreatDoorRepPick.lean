/- report.Picked: values; rows of events of the call's own. -/
import Derived.Test.YtfkejnnbfneieaaGreatDoorRepValid
import Derived.Test.YtfkejnnbfneieaaGreatDoorRepNames
import Derived.Test.YtfkejnnbfneieaaGreatDoorMonoG
import Derived.Test.YtfkejnnbfneieaaGreatDoorZsArg
import Derived.Deep.LoopGhost
import Derived.WalkMore
namespace Go.Proofs.YtfkejnnbfneieaaGreatDoor
open Go.RowKit
open Evt

namespace Evt
def pk (r : Rp) (c : Int) : List Ev := (r.opts[c.toNat]?).toList
noncomputable def pkOk (r : Rp) (c : Int) : Bool := !decide (c < 0) && !decide (choices r ≤ c)
def pkd (l : List Rp) (cs : List Int) (k : Nat) : List Ev := ((l.zip cs).take k).flatMap fun p => pk p.1 p.2
noncomputable def pkAll (l : List Rp) (cs : List Int) (k : Nat) : Bool := ((l.zip cs).take k).all fun p => pkOk p.1 p.2
noncomputable def pickB (l : List Rp) (cs : List Int) : Bool := decide (l.length = cs.length) && pkAll l cs l.length
noncomputable def pickE (l : List Rp) (cs : List Int) : Int := if pickB l cs then 0 else 1
noncomputable def pickF (l : List Rp) (cs : List Int) : List Ev := if pickB l cs then pkd l cs l.length else []
theorem zip_take {l : List Rp} {cs : List Int} {k : Nat} (h1 : k < l.length) (h2 : k < cs.length) : (l.zip cs).take (k + 1) = (l.zip cs).take k ++ [(l[k], cs[k])] := by
  have h : k < (l.zip cs).length := by rw [List.length_zip]; omega
  rw [← List.take_append_getElem h, List.getElem_zip]
theorem pkd_next {l : List Rp} {cs : List Int} {k : Nat} (h1 : k < l.length) (h2 : k < cs.length) : pkd l cs (k + 1) = pkd l cs k ++ pk l[k] cs[k] := by
  unfold pkd
  rw [zip_take h1 h2, List.flatMap_append]
  simp
theorem pkAll_next {l : List Rp} {cs : List Int} {k : Nat} (h1 : k < l.length) (h2 : k < cs.length) : pkAll l cs (k + 1) = (pkAll l cs k && pkOk l[k] cs[k]) := by
  unfold pkAll
  rw [zip_take h1 h2, List.all_append]
  simp
theorem pkAll_no {l : List Rp} {cs : List Int} {k : Nat} (h1 : k < l.length) (h2 : k < cs.length) (h : pkOk l[k] cs[k] = false) : pickB l cs = false := by
  unfold pickB
  rw [Bool.and_eq_false_iff]
  right
  have hz : k < (l.zip cs).length := by rw [List.length_zip]; omega
  cases hq : pkAll l cs l.length with
  | false => rfl
  | true =>
    unfold pkAll at hq
    have := List.all_eq_true.1 hq (l[k], cs[k]) (by
      rw [List.take_of_length_le (by rw [List.length_zip]; omega), ← List.getElem_zip (h := hz)]
      exact List.getElem_mem hz)
    rw [h] at this
    cases this
theorem pkd_len (l : List Rp) (cs : List Int) (k : Nat) : (pkd l cs k).length ≤ k := by
  have key : ∀ (z : List (Rp × Int)), (z.flatMap fun p => pk p.1 p.2).length ≤ z.length := by
    intro z
    induction z with
    | nil => simp
    | cons p z ih =>
      rw [List.flatMap_cons, List.length_append, List.length_cons]
      have : (pk p.1 p.2).length ≤ 1 := by unfold pk; cases p.1.opts[p.2.toNat]? <;> simp
      omega
  have := key ((l.zip cs).take k)
  unfold pkd
  rw [List.length_take] at this
  omega
end Evt
theorem info_evE : (Tryz.prog.info? 50).map (fun i => (i.zero, i.size, i.bytes)) = some (some (.agg (evC zero).toArray), 14, 160) := by kernel_rfl
/-- A row of the call's own that holds events. -/
structure OwnE (B : Nat) (w : World) (v : Value) (es : List Ev) : Prop where
  row : w.ownsRow B 50 14 v es.length (es.flatMap evC)
  sz : ∀ e ∈ es, Sz e
theorem OwnE.nil (B : Nat) (w : World) : OwnE B w (.slice none 0 0) [] := ⟨World.ownsRow_nil _ _ _ _, fun _ h => by cases h⟩
theorem OwnE.below {B : Nat} {w w' : World} {v : Value} {es : List Ev} (h : OwnE B w v es) (hb : Below w.heap.size w w') : OwnE B w' v es := ⟨owns_belowM h.row hb, h.sz⟩
theorem OwnE.isL {B : Nat} {w : World} {v : Value} {es : List Ev} (h : OwnE B w v es) : ∃ ao c, v = .slice ao es.length c ∧ IsL 14 ElEv w ao es := by
  obtain ⟨a, c, rfl⟩ := owns_shapeM h.row
  refine ⟨a, c, rfl, IsL.row (css := es.map evC) (by rw [← List.flatMap_def]; exact h.row) rfl (by simp) (fun cs hcs => ?_) (fun k hk hk' => ?_)⟩
  · obtain ⟨e, _, rfl⟩ := List.mem_map.1 hcs
    rfl
  · rw [List.getElem_map]
    exact ⟨rfl, h.sz _ (List.getElem_mem hk)⟩
theorem news_list (w : World) (t : TypeId) (l : List Value) : ∀ j u, l[j]? = some u → (w.alloc (.cells l.toArray t)).cell? ((⟨w.heap.size, 0, none⟩ : Addr).add j) = some u := fun j u hu => by
  have e : (⟨w.heap.size, 0, none⟩ : Addr).add j = ⟨w.heap.size, j, none⟩ := by unfold Addr.add; split <;> simp_all
  rw [e, (Whole.new w t l.toArray).cell]
  simpa using hu
end Go.Proofs.YtfkejnnbfneieaaGreatDoor

/- report.Picked: the walk. -/
namespace Go.Proofs.YtfkejnnbfneieaaGreatDoor
open Go.RowKit Go.Sort
open Evt

set_option maxRecDepth 100000 in
set_option maxHeartbeats 8000000 in
theorem repPicked_any (l : List Rp) (ao : Option Addr) (cap : Nat) (hl : l.length ≤ 1000000) (cs : List Int) (co : Option Addr) (cc : Nat) (hcl : cs.length ≤ 1000000) (W : World) (hi : IsL 2 ElRp W ao l) (hv : IsL 1 ElZ W co cs) :
    Calls Tryz.prog 7 #[.slice ao l.length cap, .slice co cs.length cc] W fun e w' => ∃ v, e = .returned (.tuple #[v, .int .i64 (pickE l cs)]) ∧ OwnE W.heap.size w' v (pickF l cs) ∧ Below W.heap.size W w' := by
  obtain ⟨i1, hi1, hy0, hy1, hy2⟩ := infoP info_evE
  have HI := Lib.hid hi
  have HV := Lib.hid hv
  have HSp := Lib.hid ev_size
  clear hi hv
  obtain ⟨n, Hn⟩ : ∃ n, Hid (n = l.length) := ⟨_, Lib.hid rfl⟩
  obtain ⟨m, Hm⟩ : ∃ n, Hid (n = cs.length) := ⟨_, Lib.hid rfl⟩
  obtain ⟨B, HB⟩ : ∃ b, Hid (b = pickB l cs) := ⟨_, Lib.hid rfl⟩
  obtain ⟨E, HE⟩ : ∃ b, Hid (b = pickE l cs) := ⟨_, Lib.hid rfl⟩
  obtain ⟨F, HF⟩ : ∃ b, Hid (b = pickF l cs) := ⟨_, Lib.hid rfl⟩
  have HEB : Hid (E = (if B then 0 else 1) ∧ F = (if B then pkd l cs l.length else [])) := Lib.hid ⟨by rw [HE.out, HB.out]; rfl, by rw [HF.out, HB.out]; rfl⟩
  rw [← HE.out, ← HF.out, ← Hn.out, ← Hm.out]
  rw [← Hn.out] at hl
  rw [← Hm.out] at hcl
  clear HE HF
  by_cases hnm : n = m
  case neg =>
    have hd : ((n : Int) == m) = false := by simp; omega
    have hd' : ((n : Int) != m) = true := by simp; omega
    obtain rfl : B = false := by rw [HB.out]; unfold pickB; rw [decide_eq_false (by rw [← Hn.out, ← Hm.out]; exact hnm)]; rfl
    obtain rfl : E = 1 := HEB.out.1
    obtain rfl : F = [] := HEB.out.2
    go_enter Tryz.func7, Tryz.ntmps7
    go_wp2_with fail
    go_step3
    go_wp2_with fail
    try rw [Exit.noGoto_ret]
    go_ret2
    exact ⟨_, rfl, OwnE.nil _ _, Below.refl _ _⟩
  subst hnm
  have hcs : cs.length = l.length := by rw [← Hn.out, ← Hm.out]
  have Hcs := Lib.hid hcs
  clear hcs Hm
  have hd : ((n : Int) == n) = true := by simp
  have hd' : ((n : Int) != n) = false := by simp
  go_enter Tryz.func7, Tryz.ntmps7
  go_wp2_with fail
  go_step3
  go_wp2_with fail
  go_step3
  go_wp2_with fail
  go_loopg [6, 18] n (fun gg s6 s18 wx => ∃ (k : Nat) (lv : Value), k + gg = n ∧ s18 = .int .i64 k ∧ s6 = lv ∧ Hid (Below W.heap.size W wx ∧ OwnE W.heap.size wx lv (pkd l cs k) ∧ pkAll l cs k = true))
  case atStart => exact ⟨0, _, by omega, rfl, rfl, Lib.hid ⟨Below.refl _ _, OwnE.nil _ _, rfl⟩⟩
  case round =>
    obtain ⟨k, lv, hkg, rfl, hlv, HR⟩ := hrel
    replace hlv := hlv.symm
    subst hlv
    cases gk with
    | zero =>
      obtain rfl : k = n := by omega
      have hd2 : decide ((k : Int) < k) = false := decide_eq_false (by omega)
      obtain rfl : B = true := by
        rw [HB.out]
        unfold pickB
        have h := HR.out.2.2
        rw [Hn.out] at h
        rw [h, decide_eq_true Hcs.out.symm]
        rfl
      obtain rfl : E = 0 := HEB.out.1
      obtain rfl : F = pkd l cs l.length := HEB.out.2
      go_wp2_with fail
      try rw [Exit.noGoto_ret]
      go_ret2
      exact ⟨_, rfl, by have h := HR.out.2.1; rw [Hn.out] at h; exact h, HR.out.1⟩
    | succ gg =>
      have hkn : k < n := by omega
      have hd2 : decide ((k : Int) < n) = true := decide_eq_true (by omega)
      have hb0 : (0 : Int) ≤ k := by omega
      have hb1 : (k : Int) < n := by omega
      have hkl : k < l.length := by rw [← Hn.out]; exact hkn
      have hkc : k < cs.length := by rw [Hcs.out]; exact hkl
      obtain ⟨bk, off, cs0, rfl, hbk, hrg, oo, oc, rfl, hel, hoc1, hoc2⟩ := HI.out.at hkl
      obtain ⟨ck, coff, cs1, rfl, hck, hcg, rfl⟩ := HV.out.at hkc
      obtain ⟨y, Hy⟩ : ∃ m, Hid (m = l[k]) := ⟨_, Lib.hid rfl⟩
      obtain ⟨z, Hz⟩ : ∃ m, Hid (m = cs[k]) := ⟨_, Lib.hid rfl⟩
      rw [← Hy.out] at hrg hel hoc1
      rw [← Hz.out] at hcg
      have hrg := rangeB hrg hbk HR.out.1
      have c0 := hrg 0 _ rfl
      have c1 := hrg 1 _ rfl
      rw [Nat.add_zero] at c0
      have cz := hcg 0 _ rfl
      rw [Nat.add_zero, Nat.mul_one] at cz
      have HEl := Lib.hid hel
      obtain ⟨on, Hon⟩ : ∃ m, Hid (m = y.opts.length) := ⟨_, Lib.hid rfl⟩
      obtain ⟨yd, Hyd⟩ : ∃ m, Hid (m = y.doubt) := ⟨_, Lib.hid rfl⟩
      have HCh0 := Lib.hid (fun (w : World) (hw : Below W.heap.size W w) => choices_any y oo oc hoc1 hoc2 w (hel.below stEv hw))
      rw [← Hon.out, ← Hyd.out] at HCh0
      rw [← Hon.out] at c0
      rw [← Hyd.out] at c1
      obtain ⟨ch, Hch⟩ : ∃ m, Hid (m = choices y) := ⟨_, Lib.hid rfl⟩
      rw [← Hch.out] at HCh0
      obtain ⟨U, HU⟩ : ∃ w, Hid (w = wr.alloc (.cells #[.slice oo on oc, .bool yd] 31)) := ⟨_, Lib.hid rfl⟩
      obtain ⟨g, Hg⟩ : ∃ g, Hid (g = wr.heap.size) := ⟨_, Lib.hid rfl⟩
      have HWU : Hid (Whole U g 31 #[.slice oo on oc, .bool yd]) := Lib.hid (by rw [HU.out, Hg.out]; exact Whole.new _ _ _)
      have HBU : Hid (Below wr.heap.size wr U) := Lib.hid (by rw [HU.out]; exact (Below.refl _ _).alloc (Nat.le_refl _) _)
      have HBWU := Lib.hid (below_step HR.out.1 HBU.out)
      have HOU := Lib.hid (HR.out.2.1.below HBU.out)
      have HC := Lib.hid (fun Z : Grown U => grown_of (x := Z) (HCh0.out Z.w (below_step HBWU.out Z.below)))
      have HPk : Hid (pkOk y z = (!decide (z < 0) && !decide (ch ≤ z))) := Lib.hid (by rw [Hch.out]; rfl)
      have HNo : Hid (pkOk y z = false → B = false) := Lib.hid (fun h => by rw [HB.out]; exact pkAll_no hkl hkc (by rw [← Hy.out, ← Hz.out]; exact h))
      have HYe : Hid (pkOk y z = true → pkAll l cs (k + 1) = true) := Lib.hid (fun h => by rw [pkAll_next hkl hkc, HR.out.2.2, ← Hy.out, ← Hz.out, h]; rfl)
      have HNx : Hid (pkd l cs (k + 1) = pkd l cs k ++ pk y z) := Lib.hid (by rw [pkd_next hkl hkc, Hy.out, Hz.out])
      have HGz := Lib.hid (fun w (hw : Below U.heap.size U w) => (cellB (below_step HBWU.out hw) hck).trans cz)
      have gz : ∀ X : Grown U, X.w.cell? ⟨ck, coff + k, none⟩ = some (.int .i64 z) := fun X => HGz.out X.w X.below
      have g0 : ∀ X : Grown U, X.w.cell? ⟨g, 0, none⟩ = some (.slice oo on oc) := fun X => by rw [X.cell HWU.out.lt]; exact HWU.out.cell 0
      have g1 : ∀ X : Grown U, X.w.cell? ⟨g, 1, none⟩ = some (.bool yd) := fun X => by rw [X.cell HWU.out.lt]; exact HWU.out.cell 1
      clear hel hoc1 hrg hcg cz
      go_wp2_with (first
        | (with_reducible show wpList _ _ _ (Oper.mk _ (Op.store 31 _ _) _ _ _ _ :: _) _ _; refine Hid.out ?_))
      refine Lib.hid ?_
      refine wpList_store_new rfl _ _ _ rfl _ #[.slice oo on oc, .bool yd] rfl rfl (by kernel_rfl) rfl (by simp [Value.oneCell']) ?_
      rw [← HU.out, ← Hg.out]
      go_simp
      go_wp2_with fail
      by_cases hz0 : z < 0
      · have e1 : decide (z < 0) = true := decide_eq_true hz0
        obtain rfl : B = false := HNo.out (by rw [HPk.out, e1]; rfl)
        obtain rfl : E = 1 := HEB.out.1
        obtain rfl : F = [] := HEB.out.2
        refine wp_region_grown (by kernel_rfl) (by kernel_rfl) ?_
        repeat (go_big_quiet_step (exact HC.out _))
        refine wpQuiet_nil ?_
        rintro _ ⟨Z, rfl⟩
        go_wp2_with fail
        try rw [Exit.noGoto_ret]
        go_ret2
        exact ⟨_, rfl, OwnE.nil _ _, below_step HBWU.out Z.below⟩
      · have e1 : decide (z < 0) = false := decide_eq_false hz0
        by_cases hz1 : ch ≤ z
        · have e2 : decide (ch ≤ z) = true := decide_eq_true hz1
          obtain rfl : B = false := HNo.out (by rw [HPk.out, e1, e2]; rfl)
          obtain rfl : E = 1 := HEB.out.1
          obtain rfl : F = [] := HEB.out.2
          refine wp_region_grown (by kernel_rfl) (by kernel_rfl) ?_
          repeat (go_big_quiet_step (exact HC.out _))
          refine wpQuiet_nil ?_
          rintro _ ⟨Z, rfl⟩
          go_wp2_with fail
          try rw [Exit.noGoto_ret]
          go_ret2
          exact ⟨_, rfl, OwnE.nil _ _, below_step HBWU.out Z.below⟩
        · have e2 : decide (ch ≤ z) = false := decide_eq_false hz1
          have HYes := Lib.hid (HYe.out (by rw [HPk.out, e1, e2]; rfl))
          refine wp_region_grown (by kernel_rfl) (by kernel_rfl) ?_
          repeat (go_big_quiet_step (exact HC.out _))
          refine wpQuiet_nil ?_
          rintro _ ⟨Z, rfl⟩
          have k0 := g0 Z
          obtain ⟨Zw, HZ⟩ : ∃ w, Hid (w = Z.w) := ⟨_, Lib.hid rfl⟩
          have HBZ : Hid (Below U.heap.size U Zw) := Lib.hid (by rw [HZ.out]; exact Z.below)
          rw [← HZ.out] at k0 ⊢
          have hon4 : on ≤ 4 := by
            have hv : validR y = true := by
              cases hv : validR y with
              | true => rfl
              | false => have h0 : choices y = 0 := by unfold choices; rw [hv]; rfl
                         rw [← Hch.out] at h0; omega
            rw [Hon.out]
            exact (validR_len hv).2
          clear g0 g1 c0 c1
          go_wp2_with fail
          go_loopg [6, 40] on (fun g2 s6 s40 wy => ∃ j : Nat, j + g2 = on ∧ s40 = .int .i64 j ∧ s6 = lv ∧ Hid ((j : Int) ≤ z ∧ Below U.heap.size U wy))
          case atStart => exact ⟨0, by omega, rfl, rfl, Lib.hid ⟨by omega, HBZ.out⟩⟩
          case round =>
            obtain ⟨j, hjg, rfl, hlv2, HJ⟩ := hrel
            replace hlv2 := hlv2.symm
            subst hlv2
            have HBj := Lib.hid (below_step HBWU.out HJ.out.2)
            cases gk with
            | zero =>
              obtain rfl : j = on := by omega
              have hj2 : decide ((j : Int) < j) = false := decide_eq_false (by omega)
              go_wp2_with fail
              go_roundg gg
              case measure => omega
              case rel => exact ⟨k + 1, _, by omega, by go_num, rfl, Lib.hid ⟨HBj.out, by
                rw [HNx.out]
                have e : pk y z = [] := by
                  unfold pk
                  rw [List.getElem?_eq_none (by have := HJ.out.1; rw [← Hon.out]; omega)]
                  rfl
                rw [e, List.append_nil]
                exact HOU.out.below HJ.out.2, HYes.out⟩⟩
            | succ g2 =>
              have hjn : j < on := by omega
              have hj2 : decide ((j : Int) < on) = true := decide_eq_true (by omega)
              have hj0 : (0 : Int) ≤ j := by omega
              have hj1 : (j : Int) < on := by omega
              have hjl : j < y.opts.length := by rw [← Hon.out]; exact hjn
              obtain ⟨bo, ooff, cs2, rfl, hbo, hog, rfl, hsz⟩ := HEl.out.at hjl
              obtain ⟨x, Hx⟩ : ∃ m, Hid (m = y.opts[j]) := ⟨_, Lib.hid rfl⟩
              rw [← Hx.out] at hog hsz
              have HRg := Lib.hid (rangeB hog hbo HBj.out)
              have HSx := Lib.hid hsz
              have HOne := Lib.hid (evC_one x)
              obtain ⟨T, HT⟩ : ∃ w, Hid (w = wr.alloc (.cells (evC x).toArray 50)) := ⟨_, Lib.hid rfl⟩
              obtain ⟨h, Hh⟩ : ∃ g, Hid (g = wr.heap.size) := ⟨_, Lib.hid rfl⟩
              have HWT : Hid (Whole T h 50 (evC x).toArray) := Lib.hid (by rw [HT.out, Hh.out]; exact Whole.new _ _ _)
              have HBUT : Hid (Below U.heap.size U T) := Lib.hid (below_step HJ.out.2 (by rw [HT.out]; exact (Below.refl _ _).alloc (Nat.le_refl _) _))
              have tz : T.cell? ⟨ck, coff + k, none⟩ = some (.int .i64 z) := HGz.out T HBUT.out
              clear hog hsz hbo
              go_wp2_with (first
                | (with_reducible show wpList _ _ _ (Oper.mk _ (Op.load 50 _) _ _ _ _ :: _) _ _; refine wpList_load_mid rfl _ _ rfl bo (ooff + j * 14) rfl _ _ HRg.out Tryz.underlying50 rfl (HSp.out.trans rfl) ?_)
                | (with_reducible show wpList _ _ _ (Oper.mk _ (Op.store 50 _ _) _ _ _ _ :: _) _ _; refine Hid.out ?_))
              refine Lib.hid ?_
              refine wpList_store_new rfl _ _ _ rfl _ (evC x).toArray rfl rfl (HSp.out.trans rfl) rfl HOne.out ?_
              rw [← HT.out, ← Hh.out]
              go_simp
              by_cases hjz : (j : Int) = z
              · have hjb : ((j : Int) == z) = true := by simp [hjz]
                have HPx : Hid (pk y z = [x]) := Lib.hid (by
                  unfold pk
                  rw [← hjz, Int.toNat_natCast, List.getElem?_eq_getElem hjl, Hx.out]
                  rfl)
                obtain ⟨X, HX⟩ : ∃ X, Hid (X = pkd l cs k) := ⟨_, Lib.hid rfl⟩
                have hXl : X.length ≤ k := by rw [HX.out]; exact pkd_len l cs k
                have HBA : Hid (Below T.heap.size T (T.alloc (.cells (evC x).toArray 50))) := Lib.hid ((Below.refl _ _).alloc (Nat.le_refl _) _)
                have HBWT := Lib.hid (below_step HBWU.out HBUT.out)
                have HBW := Lib.hid (below_step HBWT.out HBA.out)
                have HOx : Hid (OwnE W.heap.size (T.alloc (.cells (evC x).toArray 50)) lv X) := Lib.hid (by rw [HX.out]; exact (HOU.out.below HBUT.out).below HBA.out)
                have HNs := Lib.hid (news_list T 50 (evC x))
                have HOn : Hid (∀ u ∈ evC x, u.oneCell' = true) := Lib.hid (fun u hu => by have := List.all_eq_true.1 (by simpa using HOne.out) u hu; exact this)
                have hsz := HBW.out.size
                have HEx : Hid (X.flatMap evC ++ evC x = (X ++ [x]).flatMap evC ∧ ∀ e ∈ X ++ [x], Sz e) := Lib.hid ⟨by simp, fun e he => by
                  rcases List.mem_append.1 he with h | h
                  · exact HOx.out.sz e h
                  · rw [List.mem_singleton.1 h]; exact HSx.out⟩
                have HLx : Hid ((X.flatMap evC).length = X.length * 14) := Lib.hid HOx.out.row.1
                have HOr := Lib.hid HOx.out.row
                obtain ⟨x0, x1, x2, x3, x4, x5, x6, x7, x8, x9, xa, xb, xc, xd⟩ := x
                obtain ⟨es, Hes⟩ : ∃ es, Hid (es = X.flatMap evC) := ⟨_, Lib.hid rfl⟩
                have HTo : Hid (∀ (w4 : World) (v' : Value), w4.ownsRow W.heap.size 50 14 v' (X.length + 1) (es ++ evC ⟨x0, x1, x2, x3, x4, x5, x6, x7, x8, x9, xa, xb, xc, xd⟩) → w4.ownsRow W.heap.size 50 14 v' (X ++ [(⟨x0, x1, x2, x3, x4, x5, x6, x7, x8, x9, xa, xb, xc, xd⟩ : Ev)]).length ((X ++ [(⟨x0, x1, x2, x3, x4, x5, x6, x7, x8, x9, xa, xb, xc, xd⟩ : Ev)]).flatMap evC)) := Lib.hid (fun w4 v' ho => by
                  rw [Hes.out, HEx.out.1] at ho
                  rw [List.length_append]
                  exact ho)
                rw [← Hes.out] at HOr
                unfold evC at HWT HOx HNs HOn HBW HBA HOr hsz
                go_wp2_with (first
                  | (with_reducible show wpList _ _ _ (Oper.mk _ (Op.load 50 _) _ _ _ _ :: _) _ _; refine wpList_load_mid rfl _ _ rfl h 0 rfl _ _ HWT.out.range Tryz.underlying50 rfl (HSp.out.trans rfl) ?_)
                  | (at_builtin; refine Hid.out ?_))
                refine Lib.hid ?_
                refine wpList_append_own _ rfl _ _ 26 rfl W.heap.size 50 i1 _ 14 160 Tryz.underlying26 hi1 hy0 hy1 hy2 rfl (by decide) lv X.length es rfl HOr.out ⟨T.heap.size, 0, none⟩ 1 1 [.int .i64 x0, .int .i64 x1, .string x2, .string x3, .string x4, .string x5, .string x6, .string x7, .int .i64 x8, .int .i64 x9, .int .i64 xa, .int .i64 xb, .int .i64 xc, .int .i64 xd] rfl (by simp) HNs.out HOn.out (by unfold maxLen; omega) (by omega) hsz ?_
                intro v' w4 hown hgrow _
                have HB4 : Hid (Below W.heap.size W w4) := Lib.hid (HBW.out.grown hgrow hsz (fun y e => (HOr.out.lt y e).1))
                have HO4 : Hid (OwnE W.heap.size w4 v' (pkd l cs (k + 1))) := Lib.hid (by
                  rw [HNx.out, HPx.out, ← HX.out]
                  refine ⟨?_, HEx.out.2⟩
                  exact HTo.out _ _ hown)
                clear hown hgrow hsz
                go_wp2_with fail
                go_roundg gg
                case measure => omega
                case rel => exact ⟨k + 1, _, by omega, by go_num, rfl, Lib.hid ⟨HB4.out, HO4.out, HYes.out⟩⟩
              · have hjb : ((j : Int) == z) = false := by simp [hjz]
                go_wp2_with fail
                go_roundg g2
                case measure => omega
                case rel => exact ⟨j + 1, by omega, by go_num, rfl, Lib.hid ⟨by have := HJ.out.1; omega, HBUT.out⟩⟩
end Go.Proofs.YtfkejnnbfneieaaGreatDoor
