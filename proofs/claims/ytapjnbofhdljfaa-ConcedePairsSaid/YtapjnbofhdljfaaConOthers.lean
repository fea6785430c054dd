/- ConcedeOthers. -/
import Derived.Test.YtapjnbofhdljfaaConHead
namespace Go.Proofs.Ytapjnbofhdljfaa
open Go.RowKit
open Cat

namespace Con
/-- What is kept: the part, its host, and what is fitted into this. -/
def keep (part into : ByteArray) (x : Prt) : Bool := decide (x.name = part) || (decide (x.name = into) || decide (x.into = into))
theorem find_keep {s : List Prt} {part into n : ByteArray} (h : ∀ x : Prt, x.name = n → keep part into x = true) : find (s.filter (keep part into)) n = find s n := by
  unfold find
  induction s with
  | nil => rfl
  | cons x s ih =>
    by_cases hk : keep part into x = true
    · rw [List.filter_cons_of_pos hk, List.find?_cons, List.find?_cons, ih]
    · have hn : ¬ x.name = n := fun e => hk (h x e)
      rw [List.filter_cons_of_neg hk, ih, List.find?_cons, decide_eq_false hn]
theorem twin_keep {s : List Prt} {part into : ByteArray} {x : Sb} : (s.filter (keep part into)).any (twin into x) = s.any (twin into x) := by
  induction s with
  | nil => rfl
  | cons y s ih =>
    by_cases hk : keep part into y = true
    · rw [List.filter_cons_of_pos hk, List.any_cons, List.any_cons, ih]
    · have hn : twin into x y = false := by
        have h1 : ¬ y.into = into := fun e => hk (by unfold keep; rw [decide_eq_true e]; simp)
        unfold twin
        rw [decide_eq_false h1]; rfl
      rw [List.filter_cons_of_neg hk, ih, List.any_cons, hn, Bool.false_or]
theorem find_name {s : List Prt} {n : ByteArray} {p : Prt} (h : find s n = some p) : p.name = n := by
  have := List.find?_some h
  simpa using this
theorem permitted_keep {c : List Knd} {subs : List Sb} {s : List Prt} {part : ByteArray} {day : Int} : permitted c subs (s.filter (keep part (got s part).into)) part day = permitted c subs s part day := by
  unfold permitted
  rw [find_keep (n := part) (fun x hx => by unfold keep; rw [decide_eq_true hx]; rfl)]
  cases hf : find s part with
  | none => rfl
  | some p =>
    have hg : got s part = p := by unfold got; rw [hf]; rfl
    rw [hg]
    dsimp only
    by_cases hi : p.into = empty
    · rw [if_pos hi, if_pos hi]
    · rw [if_neg hi, if_neg hi, find_keep (n := p.into) (fun x hx => by unfold keep; rw [decide_eq_true hx]; simp)]
      cases hh : find s p.into with
      | none => rfl
      | some host =>
        have hn := find_name hh
        dsimp only
        congr 1
        apply congrArg (List.any subs)
        funext x
        unfold permits
        rw [hn, twin_keep]
end Con

theorem info_part : (Try.prog.info? 45).map (fun i => (i.zero, i.size, i.bytes)) = some (some (.agg zPart.toArray), 14, 160) := by kernel_rfl
set_option maxRecDepth 100000 in
theorem slice_part (p : Prt) (po : Option Addr) (pn pc : Nat) (w : World) : (Instr.buildSlice 26 1 #[(0, .agg (ptC p (.slice po pn pc)).toArray)]).run Try.prog w = .ok (.slice (some ⟨w.heap.size, 0, none⟩) 1 1) (w.alloc (.cells (ptC p (.slice po pn pc)).toArray 45)) := by
  obtain ⟨s0, s1, s2, s3, z4, z5, b6, ps, l0, l1, l2, l3, l4, l5⟩ := p
  unfold ptC
  kernel_rfl
theorem ptC_oneM (p : Prt) (qo : Option Addr) (n qc : Nat) : ∀ u ∈ ptC p (.slice qo n qc), u.oneCell' = true := by simp [ptC, Value.oneCell']
theorem filter_next {q : Prt → Bool} {l : List Prt} {k : Nat} (hk : k < l.length) : (l.take (k + 1)).filter q = (l.take k).filter q ++ if q l[k] then [l[k]] else [] := by
  rw [← List.take_append_getElem hk, List.filter_append]
  cases h : q l[k] <;> simp [h]
/-- What the loop has kept so far. -/
structure Kept (L : World) (G : Nat) (rv : Value) (X : List Prt) (w : World) : Prop where
  low : Below L.heap.size L w
  box : Whole w G 28 #[rv]
  row : ∃ css, w.ownsRow (G + 1) 45 14 rv X.length css.flatten ∧ Says 14 ElPrt L css X
theorem Kept.more {L : World} {G : Nat} {rv rv' : Value} {X : List Prt} {x : Prt} {U Y w : World} {cs : List Value} {css : List (List Value)} (h : Kept L G rv X U) (hY : Below U.heap.size U Y) (hG : G = L.heap.size) (hr : Y.ownsRow (G + 1) 45 14 rv X.length css.flatten) (hs : Says 14 ElPrt L css X) (hx : ElPrt L cs x) (hc : cs.length = 14) (hg : Y.grownBy w rv.ownBlock)
    (ho : w.ownsRow (G + 1) 45 14 rv' (X.length + 1) (css.flatten ++ cs)) : Whole w G 28 #[rv] ∧ Kept L G rv' (X ++ [x]) (w.setCell ⟨G, 0, none⟩ rv') := by
  have hbY := whole_belowM h.box hY
  have hbw := whole_grownM hbY hg (owns_wholeM hr hbY (by decide))
  have hsz : L.heap.size ≤ Y.heap.size := Nat.le_trans h.low.size hY.size
  refine ⟨hbw, ?_, hbw.set 0 rv', css ++ [cs], ?_, hs.append (.one hc hx)⟩
  · have h1 := (below_step h.low hY).grown hg hsz (fun y e => by have := (hr.lt y e).1; omega)
    have h2 : w.grownBy (w.setCell ⟨G, 0, none⟩ rv') (some G) := ⟨rfl, rfl, rfl, by simp, fun j _ hj => Below.heap_setCell _ _ _ _ (fun e => hj (by rw [e]))⟩
    exact h1.grown h2 h1.size (fun y e => by cases e; omega)
  · rw [List.length_append, List.flatten_append]
    have h2 : w.grownBy (w.setCell ⟨G, 0, none⟩ rv') (some G) := ⟨rfl, rfl, rfl, by simp, fun j _ hj => Below.heap_setCell _ _ _ _ (fun e => hj (by rw [e]))⟩
    have h3 := owns_other ho hbw (by decide) h2
    simpa using h3
set_option maxRecDepth 100000 in
set_option maxHeartbeats 8000000 in
theorem others_any (c : List Knd) (co : Option Addr) (cc : Nat) (hlc : c.length ≤ 9223372036854775807) (subs : List Sb) (bo : Option Addr) (bc : Nat) (hlb : subs.length ≤ 9223372036854775807) (s : List Prt) (so : Option Addr) (sc : Nat) (hls : s.length ≤ 9223372036854775807)
    (part : ByteArray) (day : Int) (W : World) (hc : IsL 3 ElKnd W co c) (hb : IsL 5 ElSub W bo subs) (hi : IsL 14 ElPrt W so s) :
    Calls Try.prog 8 #[.agg #[.slice co c.length cc], .slice bo subs.length bc, .agg #[.slice so s.length sc], .string part, .int .i64 day] W fun e w' => e = .returned (.bool true) ∧ Below W.heap.size W w' := by
  obtain ⟨i0, hi0, hz0, hz1, hz2⟩ := infoP info_part
  have HFew := Lib.hid (fun (w : World) (hw : Below W.heap.size W w) => few27_any co c cc bo subs bc so s sc hlc hlb hls w (hc.below stKnd hw) (hb.below stSub hw) (hi.below stPrt hw))
  have HP := Lib.hid (fun (hf : FewProps s) (w : World) (hw : Below W.heap.size W w) => permitted_any co c cc bo subs bc so s sc part day hlc hlb hf w (hc.below stKnd hw) (hb.below stSub hw) (hi.below stPrt hw))
  have HP2 := Lib.hid (fun (xo : Option Addr) (X : List Prt) (xc : Nat) (hf : FewProps X) (w : World) (hw : Below W.heap.size W w) (hx : IsL 14 ElPrt w xo X) => permitted_any co c cc bo subs bc xo X xc part day hlc hlb hf w (hc.below stKnd hw) (hb.below stSub hw) hx)
  have HFd := Lib.hid (fun (hf : FewProps s) (w : World) (hw : Below W.heap.size W w) => find_any so s sc part hls hf.2 w (hi.below stPrt hw))
  have HH := Lib.hid head_any
  have HI := Lib.hid hi
  obtain ⟨cn, Hcn⟩ : ∃ n, Hid (n = c.length) := ⟨_, Lib.hid rfl⟩
  obtain ⟨bn, Hbn⟩ : ∃ n, Hid (n = subs.length) := ⟨_, Lib.hid rfl⟩
  obtain ⟨sn, Hsn⟩ : ∃ n, Hid (n = s.length) := ⟨_, Lib.hid rfl⟩
  rw [← Hcn.out, ← Hbn.out, ← Hsn.out] at HFew HP
  rw [← Hcn.out, ← Hbn.out] at HP2
  rw [← Hsn.out] at HFd hls
  rw [← Hcn.out, ← Hbn.out, ← Hsn.out]
  clear hc hb hi
  obtain ⟨N, HN⟩ : ∃ N, Hid (N = W.heap.size) := ⟨_, Lib.hid rfl⟩
  obtain ⟨V, HV⟩ : ∃ w, Hid (w = (W.alloc (.cells #[.slice co cn cc] 24)).alloc (.cells #[.slice so sn sc] 28)) := ⟨_, Lib.hid rfl⟩
  have HB : Hid (Below W.heap.size W V) := Lib.hid (by rw [HV.out]; exact below_alloc ((Below.refl _ _).alloc (Nat.le_refl _) _) _)
  have v0 : V.cell? ⟨N, 0, none⟩ = some (.slice co cn cc) := by rw [HV.out, HN.out]; go_simp
  have v1 : V.cell? ⟨N + 1, 0, none⟩ = some (.slice so sn sc) := by rw [HV.out, HN.out]; go_simp
  have l0 := lt_of_cell v0
  have l1 := lt_of_cell v1
  go_enter Try.func8, Try.ntmps8
  go_wp2_with fail
  rw [← HN.out, ← HV.out]
  refine (HH.out V).mono ?_
  rintro e w1 ⟨rfl, hb1⟩
  have HB1 := Lib.hid hb1
  have d0 := (cellB hb1 l0).trans v0
  have d1 := (cellB hb1 l1).trans v1
  clear hb1
  go_wp2_with fail
  refine (HFew.out w1 (below_step HB.out HB1.out)).mono ?_
  rintro e w2 ⟨b2, rfl, hf, hb2⟩
  have HB2 := Lib.hid (below_step HB1.out hb2)
  clear hb2 d0 d1
  cases b2 with
  | false =>
    go_wp2_with fail
    go_ret
    exact ⟨rfl, below_step HB.out HB2.out⟩
  | true =>
  have HF := Lib.hid (show FewProps s from by
    obtain ⟨q1, q2, q3⟩ := hf rfl
    exact ⟨by rw [← Hsn.out]; omega, fun p hp => by have := q3 p hp; omega⟩)
  have hsn24 : sn ≤ 24 := (hf rfl).2.1
  clear hf
  obtain ⟨b6, e6⟩ : ∃ b, decide ((300 : Int) < (part.size : Int)) = b := ⟨_, rfl⟩
  cases b6 with
  | true =>
    go_wp2_with fail
    go_ret
    exact ⟨rfl, below_step HB.out HB2.out⟩
  | false =>
  have d1 := (cellB HB2.out l1).trans v1
  go_wp2_with fail
  clear e6
  refine (HFd.out HF.out w2 (below_step HB.out HB2.out)).mono ?_
  rintro e w3 ⟨qo, qc, rfl, _, hb3⟩
  have HB3 := Lib.hid (below_step HB2.out hb3)
  clear hb3 d1
  obtain ⟨p, Hp⟩ : ∃ p, Hid (p = Con.got s part) := ⟨_, Lib.hid rfl⟩
  rw [← Hp.out]
  obtain ⟨pn, Hpn⟩ : ∃ n, Hid (n = p.props.length) := ⟨_, Lib.hid rfl⟩
  rw [← Hpn.out]
  have HOne := Lib.hid (ptC_one p qo pn qc)
  have HSz := Lib.hid part_size
  obtain ⟨g, Hg⟩ : ∃ g, Hid (g = w3.heap.size) := ⟨_, Lib.hid rfl⟩
  obtain ⟨L, HL⟩ : ∃ w, Hid (w = w3.alloc (.cells (ptC p (.slice qo pn qc)).toArray 45)) := ⟨_, Lib.hid rfl⟩
  have HWL : Hid (Whole L g 45 (ptC p (.slice qo pn qc)).toArray) := Lib.hid (by rw [HL.out]; exact Whole.newAt _ _ Hg.out)
  have HBL : Hid (Below V.heap.size V L) := Lib.hid (by rw [HL.out]; exact below_alloc HB3.out _)
  go_wp2_with (first
    | (with_reducible show wpList _ _ _ (Oper.mk _ (Op.store 45 _ _) _ _ _ _ :: _) _ _; refine Hid.out ?_))
  refine Lib.hid ?_
  refine wpList_store_new rfl _ _ _ rfl _ (ptC p (.slice qo pn qc)).toArray rfl rfl (HSz.out.trans rfl) rfl HOne.out ?_
  rw [← HL.out, ← Hg.out]
  obtain ⟨pin, Hpin⟩ : ∃ u, Hid (u = p.into) := ⟨_, Lib.hid rfl⟩
  have g2 : L.cell? ⟨g, 2, none⟩ = some (.string pin) := by rw [Hpin.out]; exact HWL.out.cell 2
  obtain ⟨G, HG⟩ : ∃ g, Hid (g = L.heap.size) := ⟨_, Lib.hid rfl⟩
  obtain ⟨L2, HL2⟩ : ∃ w, Hid (w = L.alloc (.cells #[.slice none 0 0] 28)) := ⟨_, Lib.hid rfl⟩
  have HK0 : Hid (Kept L G (.slice none 0 0) [] L2) := Lib.hid (by
    rw [HL2.out]
    exact ⟨(Below.refl _ _).alloc (Nat.le_refl _) _, Whole.newAt _ _ HG.out, [], World.ownsRow_nil _ _ _ _, Says.nil⟩)
  have hgL : g < L.heap.size := HWL.out.lt
  go_wp2_with fail
  rw [← HG.out, ← HL2.out]
  go_loopw [15] (fun i wr => ∃ k : Nat, k ≤ sn ∧ i = .int .i64 k ∧ Hid (∃ rv, Kept L G rv ((s.take k).filter (Con.keep part pin)) wr)) (fun i _ => sn - (intOf i).toNat)
  case atStart => exact ⟨0, Nat.zero_le _, by go_num, Lib.hid ⟨_, HK0.out⟩⟩
  case round =>
    obtain ⟨k, hk, rfl, HX0⟩ := hrel
    obtain ⟨rv, hX⟩ := HX0.out
    have HX := Lib.hid hX
    clear hX
    have HBr := Lib.hid (below_step HBL.out HX.out.low)
    have d1 := (cellB HBr.out l1).trans v1
    by_cases hkn : k < sn
    · have hd : decide ((k : Int) < sn) = true := decide_eq_true (by omega)
      have hb0 : (0 : Int) ≤ k := by omega
      have hb1 : (k : Int) < sn := by omega
      have hkl : k < s.length := by rw [← Hsn.out]; exact hkn
      have HWr := Lib.hid (below_step HB.out HBr.out)
      obtain ⟨bk, off, cs, rfl, hbk, hrg, po, pc, rfl, hpr, hp9⟩ := (HI.out.below stPrt (below_step HB.out HBL.out)).at hkl
      obtain ⟨x, Hx⟩ : ∃ m, Hid (m = s[k]) := ⟨_, Lib.hid rfl⟩
      rw [← Hx.out] at hrg hpr hp9
      have HEl : Hid (ElPrt L (ptC x (.slice po x.props.length pc)) x) := Lib.hid ⟨po, pc, rfl, hpr, hp9⟩
      have HRg := Lib.hid (rangeB hrg hbk HX.out.low)
      obtain ⟨m, Hm⟩ : ∃ m, Hid (m = x.props.length) := ⟨_, Lib.hid rfl⟩
      rw [← Hm.out] at HRg HEl
      have HOnx := Lib.hid (ptC_one x po m pc)
      have HOnm := Lib.hid (ptC_oneM x po m pc)
      have HSl := Lib.hid (slice_part x po m pc)
      have HNx := Lib.hid (filter_next (q := Con.keep part pin) hkl)
      rw [← Hx.out] at HNx
      obtain ⟨X, HXe⟩ : ∃ X, Hid (X = (s.take k).filter (Con.keep part pin)) := ⟨_, Lib.hid rfl⟩
      rw [← HXe.out] at HX HNx
      have hXl : X.length ≤ 24 := by
        rw [HXe.out]
        exact Nat.le_trans (List.length_filter_le ..) (by rw [List.length_take]; omega)
      obtain ⟨gx, Hgx⟩ : ∃ g, Hid (g = wr.heap.size) := ⟨_, Lib.hid rfl⟩
      obtain ⟨U, HU⟩ : ∃ w, Hid (w = wr.alloc (.cells (ptC x (.slice po m pc)).toArray 45)) := ⟨_, Lib.hid rfl⟩
      have HWU : Hid (Whole U gx 45 (ptC x (.slice po m pc)).toArray) := Lib.hid (by rw [HU.out]; exact Whole.newAt _ _ Hgx.out)
      have HBU : Hid (Below wr.heap.size wr U) := Lib.hid (by rw [HU.out]; exact (Below.refl _ _).alloc (Nat.le_refl _) _)
      clear hrg hpr hp9
      go_wp2_with (first
        | (with_reducible show wpList _ _ _ (Oper.mk _ (Op.load 45 _) _ _ _ _ :: _) _ _; refine wpList_load_mid rfl _ _ rfl bk (off + k * 14) rfl _ _ HRg.out Try.underlying45 rfl (HSz.out.trans rfl) ?_)
        | (with_reducible show wpList _ _ _ (Oper.mk _ (Op.store 45 _ _) _ _ _ _ :: _) _ _; refine Hid.out ?_))
      refine Lib.hid ?_
      refine wpList_store_new rfl _ _ _ rfl _ (ptC x (.slice po m pc)).toArray rfl rfl (HSz.out.trans rfl) rfl HOnx.out ?_
      rw [← HU.out, ← Hgx.out]
      have HXU : Hid (Kept L G rv X U) := Lib.hid ⟨below_step HX.out.low HBU.out, whole_belowM HX.out.box HBU.out, by obtain ⟨css, h1, h2⟩ := HX.out.row; exact ⟨css, owns_belowM h1 HBU.out, h2⟩⟩
      obtain ⟨x0, Hx0⟩ : ∃ u, Hid (u = x.name) := ⟨_, Lib.hid rfl⟩
      obtain ⟨x2, Hx2⟩ : ∃ u, Hid (u = x.into) := ⟨_, Lib.hid rfl⟩
      have u0 : U.cell? ⟨gx, 0, none⟩ = some (.string x0) := by rw [Hx0.out]; exact HWU.out.cell 0
      have u2 : U.cell? ⟨gx, 2, none⟩ = some (.string x2) := by rw [Hx2.out]; exact HWU.out.cell 2
      have ug := (cellB HXU.out.low hgL).trans g2
      obtain ⟨b1, e1⟩ : ∃ b, (x0.toList == part.toList) = b := ⟨_, rfl⟩
      obtain ⟨b2, e2⟩ : ∃ b, (x0.toList == pin.toList) = b := ⟨_, rfl⟩
      obtain ⟨b3, e3⟩ : ∃ b, (x2.toList == pin.toList) = b := ⟨_, rfl⟩
      have HKp : Hid (Con.keep part pin x = (b1 || (b2 || b3))) := Lib.hid (by unfold Con.keep; rw [← Con.eq_list, ← Con.eq_list, ← Con.eq_list, ← Hx0.out, ← Hx2.out, e1, e2, e3])
      cases b1 with
      | true =>
        obtain ⟨css, hrow, hsay⟩ := HXU.out.row
        obtain ⟨ro, rcap, rfl⟩ := owns_shapeM hrow
        have HSay := Lib.hid hsay
        have hbx : U.cell? ⟨G, 0, none⟩ = some (.slice ro X.length rcap) := HXU.out.box.cell 0
        obtain ⟨Y, HY⟩ : ∃ w, Hid (w = U.alloc (.cells (ptC x (.slice po m pc)).toArray 45)) := ⟨_, Lib.hid rfl⟩
        have HBY : Hid (Below U.heap.size U Y) := Lib.hid (by rw [HY.out]; exact (Below.refl _ _).alloc (Nat.le_refl _) _)
        have HWY : Hid (Whole Y U.heap.size 45 (ptC x (.slice po m pc)).toArray) := Lib.hid (by rw [HY.out]; exact Whole.new _ _ _)
        have HRow := Lib.hid (owns_belowM hrow HBY.out)
        have hsY : G + 1 ≤ Y.heap.size := Nat.lt_of_lt_of_le HXU.out.box.lt HBY.out.size
        have HNr : Hid (∀ (i : Nat) (u : Value), (ptC x (.slice po m pc))[i]? = some u → Y.cell? ((⟨U.heap.size, 0, none⟩ : Addr).add i) = some u) := Lib.hid (by
          intro i u hu
          have e : (⟨U.heap.size, 0, none⟩ : Addr).add i = ⟨U.heap.size, i, none⟩ := by unfold Addr.add; split <;> simp_all
          rw [e, HWY.out.cell]
          simpa using hu)
        clear hrow hsay
        go_wp2_with (first
          | (with_reducible show wpList _ _ _ (Oper.mk _ (Op.load 45 _) _ _ _ _ :: _) _ _; refine wpList_load_mid rfl _ _ rfl gx 0 rfl _ _ HWU.out.range Try.underlying45 rfl (HSz.out.trans rfl) ?_)
          | (with_reducible show wpList _ _ _ (Oper.mk _ (Op.buildSlice 26 _ _) _ _ _ _ :: _) _ _; refine wpList_slice1 (u := .agg (ptC x (.slice po m pc)).toArray) rfl _ _ _ rfl rfl (HSl.out _) ?_; refine Hid.out ?_))
        refine Lib.hid ?_
        rw [← HY.out]
        go_wp2_with (at_builtin; refine wpList_append_own _ rfl _ _ 26 rfl (G + 1) 45 i0 _ 14 160 Try.underlying26 hi0 hz0 hz1 hz2 rfl (by decide) (.slice ro X.length rcap) X.length css.flatten rfl HRow.out ⟨U.heap.size, 0, none⟩ 1 1 (ptC x (.slice po m pc)) rfl rfl HNr.out HOnm.out (by unfold maxLen; omega) (by omega) hsY ?_; intro rv' w5 hown hgrow _; refine Hid.out ?_)
        refine Lib.hid ?_
        obtain ⟨hbw, hkt⟩ := HXU.out.more HBY.out HG.out HRow.out HSay.out HEl.out (ptC_len _ _) hgrow hown
        obtain ⟨so', sc', rfl⟩ := owns_shapeM hown
        have HKt := Lib.hid hkt
        have y0 := hbw.cell 0
        have y1 := hbw.frozen 0
        have HNx2 : Hid ((s.take (k + 1)).filter (Con.keep part pin) = X ++ [x]) := Lib.hid (by rw [HNx.out, HKp.out]; rfl)
        clear hown hgrow hkt hbw hbx
        go_wp2_with fail
        go_round
        case rel => exact ⟨k + 1, by omega, by go_num, Lib.hid ⟨_, by rw [HNx2.out]; exact HKt.out⟩⟩
        case measure => simp [intOf]; omega
      | false =>
      cases b2 with
      | true =>
        obtain ⟨css, hrow, hsay⟩ := HXU.out.row
        obtain ⟨ro, rcap, rfl⟩ := owns_shapeM hrow
        have HSay := Lib.hid hsay
        have hbx : U.cell? ⟨G, 0, none⟩ = some (.slice ro X.length rcap) := HXU.out.box.cell 0
        obtain ⟨Y, HY⟩ : ∃ w, Hid (w = U.alloc (.cells (ptC x (.slice po m pc)).toArray 45)) := ⟨_, Lib.hid rfl⟩
        have HBY : Hid (Below U.heap.size U Y) := Lib.hid (by rw [HY.out]; exact (Below.refl _ _).alloc (Nat.le_refl _) _)
        have HWY : Hid (Whole Y U.heap.size 45 (ptC x (.slice po m pc)).toArray) := Lib.hid (by rw [HY.out]; exact Whole.new _ _ _)
        have HRow := Lib.hid (owns_belowM hrow HBY.out)
        have hsY : G + 1 ≤ Y.heap.size := Nat.lt_of_lt_of_le HXU.out.box.lt HBY.out.size
        have HNr : Hid (∀ (i : Nat) (u : Value), (ptC x (.slice po m pc))[i]? = some u → Y.cell? ((⟨U.heap.size, 0, none⟩ : Addr).add i) = some u) := Lib.hid (by
          intro i u hu
          have e : (⟨U.heap.size, 0, none⟩ : Addr).add i = ⟨U.heap.size, i, none⟩ := by unfold Addr.add; split <;> simp_all
          rw [e, HWY.out.cell]
          simpa using hu)
        clear hrow hsay
        go_wp2_with (first
          | (with_reducible show wpList _ _ _ (Oper.mk _ (Op.load 45 _) _ _ _ _ :: _) _ _; refine wpList_load_mid rfl _ _ rfl gx 0 rfl _ _ HWU.out.range Try.underlying45 rfl (HSz.out.trans rfl) ?_)
          | (with_reducible show wpList _ _ _ (Oper.mk _ (Op.buildSlice 26 _ _) _ _ _ _ :: _) _ _; refine wpList_slice1 (u := .agg (ptC x (.slice po m pc)).toArray) rfl _ _ _ rfl rfl (HSl.out _) ?_; refine Hid.out ?_))
        refine Lib.hid ?_
        rw [← HY.out]
        go_wp2_with (at_builtin; refine wpList_append_own _ rfl _ _ 26 rfl (G + 1) 45 i0 _ 14 160 Try.underlying26 hi0 hz0 hz1 hz2 rfl (by decide) (.slice ro X.length rcap) X.length css.flatten rfl HRow.out ⟨U.heap.size, 0, none⟩ 1 1 (ptC x (.slice po m pc)) rfl rfl HNr.out HOnm.out (by unfold maxLen; omega) (by omega) hsY ?_; intro rv' w5 hown hgrow _; refine Hid.out ?_)
        refine Lib.hid ?_
        obtain ⟨hbw, hkt⟩ := HXU.out.more HBY.out HG.out HRow.out HSay.out HEl.out (ptC_len _ _) hgrow hown
        obtain ⟨so', sc', rfl⟩ := owns_shapeM hown
        have HKt := Lib.hid hkt
        have y0 := hbw.cell 0
        have y1 := hbw.frozen 0
        have HNx2 : Hid ((s.take (k + 1)).filter (Con.keep part pin) = X ++ [x]) := Lib.hid (by rw [HNx.out, HKp.out]; rfl)
        clear hown hgrow hkt hbw hbx
        go_wp2_with fail
        go_round
        case rel => exact ⟨k + 1, by omega, by go_num, Lib.hid ⟨_, by rw [HNx2.out]; exact HKt.out⟩⟩
        case measure => simp [intOf]; omega
      | false =>
      cases b3 with
      | true =>
        obtain ⟨css, hrow, hsay⟩ := HXU.out.row
        obtain ⟨ro, rcap, rfl⟩ := owns_shapeM hrow
        have HSay := Lib.hid hsay
        have hbx : U.cell? ⟨G, 0, none⟩ = some (.slice ro X.length rcap) := HXU.out.box.cell 0
        obtain ⟨Y, HY⟩ : ∃ w, Hid (w = U.alloc (.cells (ptC x (.slice po m pc)).toArray 45)) := ⟨_, Lib.hid rfl⟩
        have HBY : Hid (Below U.heap.size U Y) := Lib.hid (by rw [HY.out]; exact (Below.refl _ _).alloc (Nat.le_refl _) _)
        have HWY : Hid (Whole Y U.heap.size 45 (ptC x (.slice po m pc)).toArray) := Lib.hid (by rw [HY.out]; exact Whole.new _ _ _)
        have HRow := Lib.hid (owns_belowM hrow HBY.out)
        have hsY : G + 1 ≤ Y.heap.size := Nat.lt_of_lt_of_le HXU.out.box.lt HBY.out.size
        have HNr : Hid (∀ (i : Nat) (u : Value), (ptC x (.slice po m pc))[i]? = some u → Y.cell? ((⟨U.heap.size, 0, none⟩ : Addr).add i) = some u) := Lib.hid (by
          intro i u hu
          have e : (⟨U.heap.size, 0, none⟩ : Addr).add i = ⟨U.heap.size, i, none⟩ := by unfold Addr.add; split <;> simp_all
          rw [e, HWY.out.cell]
          simpa using hu)
        clear hrow hsay
        go_wp2_with (first
          | (with_reducible show wpList _ _ _ (Oper.mk _ (Op.load 45 _) _ _ _ _ :: _) _ _; refine wpList_load_mid rfl _ _ rfl gx 0 rfl _ _ HWU.out.range Try.underlying45 rfl (HSz.out.trans rfl) ?_)
          | (with_reducible show wpList _ _ _ (Oper.mk _ (Op.buildSlice 26 _ _) _ _ _ _ :: _) _ _; refine wpList_slice1 (u := .agg (ptC x (.slice po m pc)).toArray) rfl _ _ _ rfl rfl (HSl.out _) ?_; refine Hid.out ?_))
        refine Lib.hid ?_
        rw [← HY.out]
        go_wp2_with (at_builtin; refine wpList_append_own _ rfl _ _ 26 rfl (G + 1) 45 i0 _ 14 160 Try.underlying26 hi0 hz0 hz1 hz2 rfl (by decide) (.slice ro X.length rcap) X.length css.flatten rfl HRow.out ⟨U.heap.size, 0, none⟩ 1 1 (ptC x (.slice po m pc)) rfl rfl HNr.out HOnm.out (by unfold maxLen; omega) (by omega) hsY ?_; intro rv' w5 hown hgrow _; refine Hid.out ?_)
        refine Lib.hid ?_
        obtain ⟨hbw, hkt⟩ := HXU.out.more HBY.out HG.out HRow.out HSay.out HEl.out (ptC_len _ _) hgrow hown
        obtain ⟨so', sc', rfl⟩ := owns_shapeM hown
        have HKt := Lib.hid hkt
        have y0 := hbw.cell 0
        have y1 := hbw.frozen 0
        have HNx2 : Hid ((s.take (k + 1)).filter (Con.keep part pin) = X ++ [x]) := Lib.hid (by rw [HNx.out, HKp.out]; rfl)
        clear hown hgrow hkt hbw hbx
        go_wp2_with fail
        go_round
        case rel => exact ⟨k + 1, by omega, by go_num, Lib.hid ⟨_, by rw [HNx2.out]; exact HKt.out⟩⟩
        case measure => simp [intOf]; omega
      | false =>
        have HNx2 : Hid ((s.take (k + 1)).filter (Con.keep part pin) = X) := Lib.hid (by rw [HNx.out, HKp.out]; simp)
        go_wp2_with fail
        go_round
        case rel => exact ⟨k + 1, by omega, by go_num, Lib.hid ⟨rv, by rw [HNx2.out]; exact HXU.out⟩⟩
        case measure => simp [intOf]; omega
    · obtain rfl : k = sn := by omega
      have hd : decide ((k : Int) < k) = false := decide_eq_false (by omega)
      obtain ⟨X, HXe⟩ : ∃ X, Hid (X = s.filter (Con.keep part pin)) := ⟨_, Lib.hid rfl⟩
      have hXe : (s.take k).filter (Con.keep part pin) = X := by rw [HXe.out, List.take_of_length_le (by rw [← Hsn.out]; exact Nat.le_refl _)]
      rw [hXe] at HX
      clear hXe
      obtain ⟨css, hrow, hsay⟩ := HX.out.row
      obtain ⟨ro, rcap, rfl⟩ := owns_shapeM hrow
      have HXl : Hid (IsL 14 ElPrt wr ro X) := Lib.hid ((hsay.below stPrt HX.out.low).row hrow rfl)
      have HFX : Hid (FewProps X) := Lib.hid ⟨Nat.le_trans (by rw [HXe.out]; exact List.length_filter_le ..) HF.out.1, fun q hq => HF.out.2 q (by rw [HXe.out] at hq; exact (List.mem_filter.1 hq).1)⟩
      obtain ⟨u, Hu⟩ : ∃ u, Hid (u = Con.permitted c subs s part day) := ⟨_, Lib.hid rfl⟩
      have HUX : Hid (Con.permitted c subs X part day = u) := Lib.hid (by rw [Hu.out, HXe.out, Hpin.out, Hp.out]; exact Con.permitted_keep)
      have HW := Lib.hid (below_step HB.out HBr.out)
      have hP1 : Hid (∀ Z : Grown wr, Calls Try.prog 14 #[.agg #[.slice co cn cc], .slice bo bn bc, .agg #[.slice so k sc], .string part, .int .i64 day] Z.w fun e w' => e = .returned (.bool u) ∧ Below Z.w.heap.size Z.w w') := Lib.hid (fun Z => by rw [Hu.out]; exact HP.out HF.out Z.w (below_step HW.out Z.below))
      have hP2 : Hid (∀ Z : Grown wr, Calls Try.prog 14 #[.agg #[.slice co cn cc], .slice bo bn bc, .agg #[.slice ro X.length rcap], .string part, .int .i64 day] Z.w fun e w' => e = .returned (.bool u) ∧ Below Z.w.heap.size Z.w w') := Lib.hid (fun Z => by
        have := HP2.out ro X rcap HFX.out Z.w (below_step HW.out Z.below) (HXl.out.below stPrt Z.below)
        rw [HUX.out] at this
        exact this)
      have d0 := (cellB HBr.out l0).trans v0
      have hbx : wr.cell? ⟨G, 0, none⟩ = some (.slice ro X.length rcap) := HX.out.box.cell 0
      have hGl := HX.out.box.lt
      have hNl := lt_of_cell d0
      have hNl1 := lt_of_cell d1
      have gx0 : ∀ Z : Grown wr, Z.w.cell? ⟨N, 0, none⟩ = some (.slice co cn cc) := fun Z => by rw [Z.cell hNl]; exact d0
      have gx1 : ∀ Z : Grown wr, Z.w.cell? ⟨N + 1, 0, none⟩ = some (.slice so k sc) := fun Z => by rw [Z.cell hNl1]; exact d1
      have gx2 : ∀ Z : Grown wr, Z.w.cell? ⟨G, 0, none⟩ = some (.slice ro X.length rcap) := fun Z => by rw [Z.cell hGl]; exact hbx
      clear hrow hsay
      go_wp2_with fail
      refine wp_region_grown (by kernel_rfl) (by kernel_rfl) ?_
      iterate 8 (go_big_quiet_step (exact grown_of (hP1.out _)))
      repeat (go_big_quiet_step (exact grown_of (hP2.out _)))
      refine wpQuiet_nil ?_
      rintro _ ⟨Z, rfl⟩
      go_wp2_with fail
      go_ret
      exact ⟨rfl, below_step HW.out Z.below⟩
theorem others_row (co : Option Addr) (c : List Knd) (cc : Nat) (hlc : c.length ≤ 9223372036854775807) (bo : Option Addr) (subs : List Sb) (bc : Nat) (hlb : subs.length ≤ 9223372036854775807) (so : Option Addr) (s : List Prt) (sc : Nat) (hls : s.length ≤ 9223372036854775807)
    (part : ByteArray) (day : Int) (W : World) (hc : IsL 3 ElKnd W co c) (hb : IsL 5 ElSub W bo subs) (hi : IsL 14 ElPrt W so s) :
    Calls Try.prog 8 #[.agg #[.slice co c.length cc], .slice bo subs.length bc, .agg #[.slice so s.length sc], .string part, .int .i64 day] W fun e w' => e = .returned (.bool true) ∧ Below W.heap.size W w' :=
  others_any c co cc hlc subs bo bc hlb s so sc hls part day W hc hb hi

end Go.Proofs.Ytapjnbofhdljfaa
